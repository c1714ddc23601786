/- Heaps, plain: members that wait, by their loads. -/
import Derived.Test.YtneobpdbfbcnmaaQg
namespace Go.Proofs.Ytneobpdbfbcnmaa
set_option linter.unusedVariables false
open Go.RowKit Go.Deep

def swp (l : List Nat) (i j : Nat) : List Nat := (l.set i (l.getD j 0)).set j (l.getD i 0)
theorem swp_len (l : List Nat) (i j : Nat) : (swp l i j).length = l.length := by unfold swp; simp
/-- the one at j goes up -/
def upF (ld : Nat → Nat) : Nat → List Nat → Nat → List Nat
  | 0, l, _ => l
  | f + 1, l, j => if j = 0 then l else if ld (l.getD j 0) < ld (l.getD ((j - 1) / 2) 0) then upF ld f (swp l ((j - 1) / 2) j) ((j - 1) / 2) else l
/-- which of the two below i, of n, is to be held against it -/
def kid (ld : Nat → Nat) (l : List Nat) (i n : Nat) : Nat := if 2 * i + 2 < n ∧ ld (l.getD (2 * i + 2) 0) < ld (l.getD (2 * i + 1) 0) then 2 * i + 2 else 2 * i + 1
/-- the one at i goes down, among the first n -/
def downF (ld : Nat → Nat) : Nat → List Nat → Nat → Nat → List Nat
  | 0, l, _, _ => l
  | f + 1, l, i, n => if n ≤ 2 * i + 1 then l else if ld (l.getD (kid ld l i n) 0) < ld (l.getD i 0) then downF ld f (swp l i (kid ld l i n)) (kid ld l i n) n else l
def pushF (ld : Nat → Nat) (l : List Nat) (x : Nat) : List Nat := upF ld (l.length + 1) (l ++ [x]) l.length
def sunk (ld : Nat → Nat) (l : List Nat) : List Nat := downF ld l.length (swp l 0 (l.length - 1)) 0 (l.length - 1)
def popL (ld : Nat → Nat) (l : List Nat) : List Nat := (sunk ld l).take (l.length - 1)
def popX (ld : Nat → Nat) (l : List Nat) : Nat := (sunk ld l).getD (l.length - 1) 0
def pushes (ld : Nat → Nat) : Nat → List Nat
  | 0 => []
  | c + 1 => pushF ld (pushes ld c) c
/-- what is left behind k pops -/
def restF (ld : Nat → Nat) (l : List Nat) : Nat → List Nat
  | 0 => l
  | k + 1 => popL ld (restF ld l k)
/-- what is popped k-th -/
def outF (ld : Nat → Nat) (l : List Nat) (k : Nat) : Nat := popX ld (restF ld l k)
theorem upF_len (ld : Nat → Nat) : ∀ f l j, (upF ld f l j).length = l.length
  | 0, _, _ => rfl
  | f + 1, l, j => by
    unfold upF
    by_cases h : j = 0
    · rw [if_pos h]
    · rw [if_neg h]
      by_cases h2 : ld (l.getD j 0) < ld (l.getD ((j - 1) / 2) 0)
      · rw [if_pos h2, upF_len ld f, swp_len]
      · rw [if_neg h2]
theorem downF_len (ld : Nat → Nat) : ∀ f l i n, (downF ld f l i n).length = l.length
  | 0, _, _, _ => rfl
  | f + 1, l, i, n => by
    unfold downF
    by_cases h : n ≤ 2 * i + 1
    · rw [if_pos h]
    · rw [if_neg h]
      by_cases h2 : ld (l.getD (kid ld l i n) 0) < ld (l.getD i 0)
      · rw [if_pos h2, downF_len ld f, swp_len]
      · rw [if_neg h2]
theorem pushF_len (ld : Nat → Nat) (l : List Nat) (x : Nat) : (pushF ld l x).length = l.length + 1 := by unfold pushF; rw [upF_len, List.length_append]; rfl
theorem pushes_len (ld : Nat → Nat) : ∀ c, (pushes ld c).length = c
  | 0 => rfl
  | c + 1 => by show (pushF ld (pushes ld c) c).length = _; rw [pushF_len, pushes_len ld c]
theorem sunk_len (ld : Nat → Nat) (l : List Nat) : (sunk ld l).length = l.length := by unfold sunk; rw [downF_len, swp_len]
theorem popL_len (ld : Nat → Nat) (l : List Nat) : (popL ld l).length = l.length - 1 := by unfold popL; rw [List.length_take, sunk_len]; omega
theorem restF_len (ld : Nat → Nat) (l : List Nat) : ∀ k, (restF ld l k).length = l.length - k
  | 0 => rfl
  | k + 1 => by show (popL ld (restF ld l k)).length = _; rw [popL_len, restF_len ld l k]; omega
/-- how many go ahead of the one at place k, of c, begun at b -/
def ldn (c b k : Nat) : Nat := (k + c - b) % c
set_option maxRecDepth 1000000 in
theorem heap_tells : ∀ c, c < 17 → ∀ b, b < c → ∀ k, k < c → outF (ldn c b) (pushes (ldn c b) c) k = (k + b) % c := by decide +kernel
end Go.Proofs.Ytneobpdbfbcnmaa
