/- Messages as bytes, plain. -/
import Derived.Test.YtoepemgflbmlcaaDoorNc
namespace Go.Proofs.YtoepemgflbmlcaaDoor
set_option linter.unusedVariables false

structure Vp where
  (slot ballot : Nat) (c : Cp)
structure Mp where
  (kind src dst ballot slot blob index epoch id : Nat) (ok : Bool) (c : Cp) (votes : List Vp) (bytes : List Nat)
def voteB (v : Vp) : List Nat := numsB [v.slot, v.ballot] ++ cmdB v.c
def votesB (l : List Vp) : List Nat := l.flatMap voteB
def truthB (b : Bool) : List Nat := [if b then 1 else 0]
def msgB (m : Mp) : List Nat := numsB [m.kind, m.src, m.dst, m.ballot, m.slot, m.blob, m.index, m.epoch, m.id] ++ (truthB m.ok ++ (cmdB m.c ++ (numB m.votes.length ++ (votesB m.votes ++ (numB m.bytes.length ++ m.bytes)))))
def rdTruth : List Nat → Option (Bool × List Nat)
  | [] => none
  | x :: t => if x ≤ 1 then some (x == 1, t) else none
def rdVote (xs : List Nat) : Option (Vp × List Nat) := (rdNums mx 2 xs).bind fun p => (rdCmd p.2).bind fun q => some (⟨p.1.getD 0 0, p.1.getD 1 0, q.1⟩, q.2)
def rdVotes : Nat → List Nat → Option (List Vp × List Nat)
  | 0, xs => some ([], xs)
  | k + 1, xs => (rdVote xs).bind fun p => (rdVotes k p.2).bind fun q => some (p.1 :: q.1, q.2)
def rdMsg (xs : List Nat) : Option (Mp × List Nat) :=
  (rdNums mx 9 xs).bind fun p => (rdTruth p.2).bind fun b => (rdCmd b.2).bind fun c => (rdNum 1000 c.2).bind fun n => (rdVotes n.1 n.2).bind fun v => (rdText 2000 v.2).bind fun y =>
    some (⟨p.1.getD 0 0, p.1.getD 1 0, p.1.getD 2 0, p.1.getD 3 0, p.1.getD 4 0, p.1.getD 5 0, p.1.getD 6 0, p.1.getD 7 0, p.1.getD 8 0, b.1, c.1, v.1, y.1⟩, y.2)
structure Vp.fit (v : Vp) : Prop where
  s : v.slot ≤ mx
  b : v.ballot ≤ mx
  c : v.c.fit
structure Mp.fit (m : Mp) : Prop where
  n : ∀ x ∈ [m.kind, m.src, m.dst, m.ballot, m.slot, m.blob, m.index, m.epoch, m.id], x ≤ mx
  c : m.c.fit
  l : m.votes.length ≤ 1000
  v : ∀ v ∈ m.votes, v.fit
  y : m.bytes.length ≤ 2000
theorem rdTruth_num (b : Bool) (t : List Nat) : rdTruth (truthB b ++ t) = some (b, t) := by
  cases b <;> rfl
theorem rdTruth_back {xs t : List Nat} {b : Bool} (hb : ∀ x ∈ xs, x < 256) (h : rdTruth xs = some (b, t)) : xs = truthB b ++ t ∧ ∀ x ∈ t, x < 256 := by
  cases xs with
  | nil => cases h
  | cons x l =>
    replace h : (if x ≤ 1 then some (x == 1, l) else none) = some (b, t) := h
    by_cases hx : x ≤ 1
    · rw [if_pos hx] at h
      injection h with h
      injection h with h1 h2
      subst h1 h2
      refine ⟨?_, fun y hy => hb y (List.mem_cons_of_mem _ hy)⟩
      rcases (show x = 0 ∨ x = 1 by omega) with e | e <;> subst e <;> rfl
    · rw [if_neg hx] at h
      cases h
theorem rdVote_num {v : Vp} (h : v.fit) (t : List Nat) : rdVote (voteB v ++ t) = some (v, t) := by
  unfold rdVote voteB
  rw [List.append_assoc, show (2 : Nat) = [v.slot, v.ballot].length from rfl, rdNums_num (by decide) _ _ (fun x hx => by simp only [List.mem_cons, List.not_mem_nil, or_false] at hx; rcases hx with rfl | rfl; exact h.s; exact h.b)]
  dsimp only [Option.bind_some]
  rw [rdCmd_num h.c]
  rfl
theorem rdVote_back {xs t : List Nat} {v : Vp} (hb : ∀ x ∈ xs, x < 256) (h : rdVote xs = some (v, t)) : xs = voteB v ++ t ∧ v.fit ∧ ∀ x ∈ t, x < 256 := by
  unfold rdVote at h
  obtain ⟨⟨l1, t1⟩, h1, h⟩ := Option.bind_eq_some_iff.1 h
  obtain ⟨⟨c2, t2⟩, h2, h⟩ := Option.bind_eq_some_iff.1 h
  dsimp only at h1 h2 h
  obtain ⟨a1, a2, a3, a4⟩ := rdNums_back 2 _ _ _ hb h1
  obtain ⟨b1, b2, b3⟩ := rdCmd_back a4 h2
  injection h with h
  injection h with hc ht
  subst hc ht
  have q := list2 a2
  have m1 : ∀ y ∈ l1, y ≤ mx := fun y hy => (a3 y hy).1
  rw [q] at m1
  simp only [List.mem_cons, List.not_mem_nil, or_false, forall_eq_or_imp, forall_eq] at m1
  refine ⟨?_, ⟨m1.1, m1.2, b2⟩, b3⟩
  unfold voteB
  dsimp only
  rw [← q, List.append_assoc, ← b1, ← a1]
theorem rdVotes_num : ∀ (l : List Vp) (t : List Nat), (∀ v ∈ l, v.fit) → rdVotes l.length (votesB l ++ t) = some (l, t)
  | [], t, _ => rfl
  | v :: l, t, h => by
    show (rdVote ((voteB v ++ votesB l) ++ t)).bind _ = _
    rw [List.append_assoc, rdVote_num (h v (List.mem_cons_self ..))]
    show (rdVotes l.length (votesB l ++ t)).bind _ = _
    rw [rdVotes_num l t (fun y hy => h y (List.mem_cons_of_mem _ hy))]
    rfl
theorem rdVotes_back : ∀ (k : Nat) (xs : List Nat) (l : List Vp) (t : List Nat), (∀ x ∈ xs, x < 256) → rdVotes k xs = some (l, t) → xs = votesB l ++ t ∧ l.length = k ∧ (∀ v ∈ l, v.fit) ∧ ∀ x ∈ t, x < 256
  | 0, xs, l, t, hb, h => by
    injection h with h
    injection h with h1 h2
    subst h1 h2
    exact ⟨rfl, rfl, fun v hv => (by cases hv), hb⟩
  | k + 1, xs, l, t, hb, h => by
    unfold rdVotes at h
    obtain ⟨⟨v, t1⟩, h1, h⟩ := Option.bind_eq_some_iff.1 h
    obtain ⟨⟨m, t2⟩, h2, h⟩ := Option.bind_eq_some_iff.1 h
    dsimp only at h2 h
    injection h with h
    injection h with e1 e2
    subst e1 e2
    obtain ⟨a1, a2, a3⟩ := rdVote_back hb h1
    obtain ⟨b1, b2, b3, b4⟩ := rdVotes_back k t1 m t2 a3 h2
    refine ⟨?_, by simp [b2], fun y hy => ?_, b4⟩
    · rw [a1, b1]
      show _ = (voteB v ++ votesB m) ++ t2
      rw [List.append_assoc]
    · rcases List.mem_cons.1 hy with e | e
      · rw [e]; exact a2
      · exact b3 y e
theorem list9 {l : List Nat} (h : l.length = 9) : l = [l.getD 0 0, l.getD 1 0, l.getD 2 0, l.getD 3 0, l.getD 4 0, l.getD 5 0, l.getD 6 0, l.getD 7 0, l.getD 8 0] := by
  match l, h with
  | [a, b, c, d, e, f, g, i, j], _ => rfl
theorem rdMsg_num {m : Mp} (h : m.fit) (t : List Nat) : rdMsg (msgB m ++ t) = some (m, t) := by
  unfold rdMsg msgB
  simp only [List.append_assoc]
  rw [show (9 : Nat) = [m.kind, m.src, m.dst, m.ballot, m.slot, m.blob, m.index, m.epoch, m.id].length from rfl, rdNums_num (by decide) _ _ h.n]
  dsimp only [Option.bind_some]
  rw [rdTruth_num]
  dsimp only [Option.bind_some]
  rw [rdCmd_num h.c]
  dsimp only [Option.bind_some]
  rw [rdNum_num h.l (by have := h.l; omega)]
  dsimp only [Option.bind_some]
  rw [rdVotes_num _ _ h.v]
  dsimp only [Option.bind_some]
  rw [rdText_num (by decide) h.y]
  rfl
theorem rdMsg_back {m : Mp} {xs t : List Nat} (hb : ∀ x ∈ xs, x < 256) (h : rdMsg xs = some (m, t)) : xs = msgB m ++ t ∧ m.fit ∧ (∀ x ∈ m.bytes, x < 256) ∧ ∀ x ∈ t, x < 256 := by
  unfold rdMsg at h
  obtain ⟨⟨l1, t1⟩, h1, h⟩ := Option.bind_eq_some_iff.1 h
  obtain ⟨⟨b2, t2⟩, h2, h⟩ := Option.bind_eq_some_iff.1 h
  obtain ⟨⟨c3, t3⟩, h3, h⟩ := Option.bind_eq_some_iff.1 h
  obtain ⟨⟨n4, t4⟩, h4, h⟩ := Option.bind_eq_some_iff.1 h
  obtain ⟨⟨v5, t5⟩, h5, h⟩ := Option.bind_eq_some_iff.1 h
  obtain ⟨⟨y6, t6⟩, h6, h⟩ := Option.bind_eq_some_iff.1 h
  dsimp only at h1 h2 h3 h4 h5 h6 h
  obtain ⟨a1, a2, a3, a4⟩ := rdNums_back 9 _ _ _ hb h1
  obtain ⟨bb1, bb2⟩ := rdTruth_back a4 h2
  obtain ⟨c1, c2, c4⟩ := rdCmd_back bb2 h3
  obtain ⟨d1, d2, d3, d4⟩ := rdNum_back c4 h4
  obtain ⟨e1, e2, e3, e4⟩ := rdVotes_back n4 _ _ _ d4 h5
  obtain ⟨f1, f2, f3, f4⟩ := rdText_back e4 h6
  injection h with h
  injection h with hc ht
  subst ht
  have q1 := list9 a2
  subst hc
  refine ⟨?_, ⟨?_, c2, (by show v5.length ≤ 1000; omega), e3, f2⟩, f3, f4⟩
  · unfold msgB
    dsimp only
    simp only [List.append_assoc]
    rw [← q1, e2, ← f1, ← e1, ← d1, ← c1, ← bb1, ← a1]
  · intro x hx
    have m1 : ∀ y ∈ l1, y ≤ mx := fun y hy => (a3 y hy).1
    rw [q1] at m1
    exact m1 x hx
end Go.Proofs.YtoepemgflbmlcaaDoor
