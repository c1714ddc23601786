/- Commands as bytes, plain. -/
import Derived.Test.YtippipeebkkghaaGreatDoorNa
namespace Go.Proofs.YtippipeebkkghaaGreatDoor
set_option linter.unusedVariables false

/-- a command, plain: all numbers from 0 on -/
structure Cp where
  (id kind blob other index node size sum k m : Nat) (key nodes : List Nat)
/-- numbers, one behind the other -/
def numsB (l : List Nat) : List Nat := l.flatMap numB
def cmdB (c : Cp) : List Nat := numsB [c.id, c.kind, c.blob, c.other, c.index, c.node, c.size, c.sum, c.k, c.m, c.key.length] ++ (c.key ++ (numB c.nodes.length ++ numsB c.nodes))
/-- so many numbers -/
def rdNums (most : Nat) : Nat → List Nat → Option (List Nat × List Nat)
  | 0, xs => some ([], xs)
  | k + 1, xs => match rdNum most xs with
    | none => none
    | some (n, t) => match rdNums most k t with
      | none => none
      | some (l, u) => some (n :: l, u)
/-- so many bytes -/
def rdText (most : Nat) (xs : List Nat) : Option (List Nat × List Nat) := match rdNum most xs with
  | none => none
  | some (n, t) => if n ≤ t.length then some (t.take n, t.drop n) else none
/-- the greatest number -/
abbrev mx : Nat := 1152921504606846976
theorem rdNums_num {most : Nat} (hm : most < 256 ^ 8) : ∀ (l t : List Nat), (∀ n ∈ l, n ≤ most) → rdNums most l.length (numsB l ++ t) = some (l, t)
  | [], t, _ => rfl
  | n :: l, t, h => by
    have h1 := h n (List.mem_cons_self ..)
    have h2 := rdNums_num hm l t (fun y hy => h y (List.mem_cons_of_mem _ hy))
    show rdNums most (l.length + 1) (numB n ++ numsB l ++ t) = _
    rw [List.append_assoc]
    unfold rdNums
    rw [rdNum_num h1 (by omega)]
    dsimp only
    rw [h2]
theorem rdNums_back {most : Nat} : ∀ (k : Nat) (xs l t : List Nat), (∀ x ∈ xs, x < 256) → rdNums most k xs = some (l, t) → xs = numsB l ++ t ∧ l.length = k ∧ (∀ n ∈ l, n ≤ most ∧ n < 256 ^ 8) ∧ ∀ x ∈ t, x < 256
  | 0, xs, l, t, hb, h => by
    injection h with h
    injection h with h1 h2
    subst h1 h2
    exact ⟨rfl, rfl, fun n hn => (by cases hn), hb⟩
  | k + 1, xs, l, t, hb, h => by
    unfold rdNums at h
    cases hq : rdNum most xs with
    | none => rw [hq] at h; cases h
    | some p =>
      obtain ⟨n, u⟩ := p
      rw [hq] at h
      dsimp only at h
      obtain ⟨e1, e2, e3, e4⟩ := rdNum_back hb hq
      cases hr : rdNums most k u with
      | none => rw [hr] at h; cases h
      | some p =>
        obtain ⟨m, v⟩ := p
        rw [hr] at h
        injection h with h
        injection h with h1 h2
        subst h1 h2
        obtain ⟨f1, f2, f3, f4⟩ := rdNums_back k u m v e4 hr
        refine ⟨?_, by simp [f2], fun y hy => ?_, f4⟩
        · rw [e1, f1]
          show _ = (numB n ++ numsB m) ++ v
          rw [List.append_assoc]
        · rcases List.mem_cons.1 hy with e | e
          · rw [e]; exact ⟨e2, e3⟩
          · exact f3 y e
end Go.Proofs.YtippipeebkkghaaGreatDoor
