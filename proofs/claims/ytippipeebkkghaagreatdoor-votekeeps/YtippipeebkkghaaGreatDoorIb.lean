/- A shelf's records and what they come to (plain). -/
import Derived.Test.YtippipeebkkghaaGreatDoorIa
import Derived.Test.YtippipeebkkghaaGreatDoorNa
import Derived.Test.YtippipeebkkghaaGreatDoorBg
namespace Go.Proofs.YtippipeebkkghaaGreatDoor
set_option linter.unusedVariables false
set_option linter.unusedSimpArgs false
open Go.RowKit Go.Deep

/-- a shelf's record: kind, number, index, epoch, bytes -/
structure Rc where
  (k n i e : Nat)
  b : List Nat
/-- its bytes in the log -/
def wrS (r : Rc) : List Nat := [r.k] ++ numB r.n ++ (if r.k = 4 then [] else numB r.i) ++ (if r.k = 3 then numB r.e else []) ++ r.b
/-- the thing that it has be otherwise -/
def subS (r : Rc) : K3 := ⟨((if r.k = 2 then 1 else r.k : Nat) : Int), (r.n : Int), (r.i : Int)⟩
def staysS (r : Rc) : Bool := decide (r.k ≠ 2) && (decide (r.k ≠ 3) || decide (0 < r.e))
def secS (r : Rc) : Nat := needW (wrS r)
/-- what a shelf has behind a record -/
def putS (M : K3 → Option Rc) (r : Rc) : K3 → Option Rc := fun x => if x = subS r then (if staysS r = true then some r else none) else M x
/-- how many sectors all have behind a record -/
def behS (M : K3 → Option Rc) (t : Int) (r : Rc) : Int := t - (match M (subS r) with | some o => (secS o : Int) | none => 0) + (if staysS r = true then (secS r : Int) else 0)
/-- what records come to, and how many sectors they have -/
def stS (h : List Rc) : (K3 → Option Rc) × Int := h.foldl (fun x r => (putS x.1 r, behS x.1 x.2 r)) (fun _ => none, 0)
theorem stS_nil : stS [] = (fun _ => none, 0) := rfl
theorem stS_snoc (h : List Rc) (r : Rc) : stS (h ++ [r]) = (putS (stS h).1 r, behS (stS h).1 (stS h).2 r) := by
  unfold stS
  rw [List.foldl_append]
  rfl
theorem behS_le (M : K3 → Option Rc) (t : Int) (r : Rc) : behS M t r ≤ t + (secS r : Int) := by
  unfold behS
  cases hM : M (subS r) with
  | none => dsimp only; split <;> omega
  | some o =>
    dsimp only
    have h1 : (0 : Int) ≤ (secS o : Int) := Int.natCast_nonneg _
    have h2 : (0 : Int) ≤ (secS r : Int) := Int.natCast_nonneg _
    split <;> omega
theorem stS_le (h : List Rc) : (stS h).2 ≤ (totW (h.map wrS) : Int) := by
  suffices H : ∀ n, ∀ h : List Rc, h.length = n → (stS h).2 ≤ (totW (h.map wrS) : Int) from H _ h rfl
  intro n
  induction n with
  | zero =>
    intro h hl
    rw [List.eq_nil_of_length_eq_zero hl]
    exact Int.le_refl _
  | succ n ih =>
    intro h hl
    obtain ⟨l, r, rfl⟩ : ∃ l r, h = l ++ [r] := ⟨h.dropLast, h.getLast (by intro e; subst e; simp at hl), (List.dropLast_concat_getLast _).symm⟩
    have h1 := ih l (by simpa using hl)
    have h2 := behS_le (stS l).1 (stS l).2 r
    rw [stS_snoc, List.map_append, totW_app]
    show behS _ _ _ ≤ ((totW (l.map wrS) + needW (wrS r) : Nat) : Int)
    have : secS r = needW (wrS r) := rfl
    omega
/-- the least that it can be -/
theorem stS_ge (h : List Rc) (hb : ∀ r ∈ h, secS r ≤ 50) : (-50 * (h.length : Int)) ≤ (stS h).2 ∧ ∀ x o, (stS h).1 x = some o → o ∈ h := by
  suffices H : ∀ n, ∀ h : List Rc, h.length = n → (∀ r ∈ h, secS r ≤ 50) → (-50 * (h.length : Int)) ≤ (stS h).2 ∧ ∀ x o, (stS h).1 x = some o → o ∈ h from H _ h rfl hb
  intro n
  induction n with
  | zero =>
    intro h hl _
    rw [List.eq_nil_of_length_eq_zero hl]
    exact ⟨by simp [stS], fun x o e => by cases e⟩
  | succ n ih =>
    intro h hl hb
    obtain ⟨l, r, rfl⟩ : ∃ l r, h = l ++ [r] := ⟨h.dropLast, h.getLast (by intro e; subst e; simp at hl), (List.dropLast_concat_getLast _).symm⟩
    obtain ⟨h1, h2⟩ := ih l (by simpa using hl) (fun z hz => hb z (List.mem_append_left _ hz))
    rw [stS_snoc]
    refine ⟨?_, fun x o e => ?_⟩
    · show _ ≤ behS _ _ _
      unfold behS
      rw [List.length_append]
      cases hM : (stS l).1 (subS r) with
      | none => simp; split <;> omega
      | some o =>
        have := hb o (List.mem_append_left _ (h2 _ _ hM))
        simp
        split <;> omega
    · have e' : putS (stS l).1 r x = some o := e
      unfold putS at e'
      split at e'
      · split at e'
        · cases e'; simp
        · cases e'
      · exact List.mem_append_left _ (h2 _ _ e')
/-- a record that a shelf may have -/
structure GoodR (r : Rc) : Prop where
  k1 : 1 ≤ r.k ∧ r.k ≤ 4
  n1 : r.n ≤ 1152921504606846976
  i1 : r.i ≤ 1152921504606846976
  e1 : r.e ≤ 1152921504606846976
  by_ : ∀ x ∈ r.b, x < 256
  bl : r.b.length ≤ 1980
  b23 : r.k = 2 ∨ r.k = 3 → r.b = []
theorem numB_len {n : Nat} (h : n ≤ 1152921504606846976) : 1 ≤ (numB n).length ∧ (numB n).length ≤ 9 := by
  have h8 : numW n ≤ 8 := numW_le (show n < 256 ^ 8 by have : (256 : Nat) ^ 8 = 18446744073709551616 := rfl; omega)
  have : (numB n).length = numW n + 1 := by show (_ :: digs _ _).length = _; rw [List.length_cons, digs_len]
  omega
theorem wrS_len {r : Rc} (h : GoodR r) : 1 ≤ (wrS r).length ∧ (wrS r).length ≤ 2000 ∧ (wrS r).length ≤ 28 + r.b.length := by
  obtain ⟨n1, n2⟩ := numB_len h.n1
  obtain ⟨i1, i2⟩ := numB_len h.i1
  obtain ⟨e1, e2⟩ := numB_len h.e1
  have hbl := h.bl
  unfold wrS
  by_cases h4 : r.k = 4
  · rw [if_pos h4, if_neg (by omega)]
    simp only [List.length_append, List.length_cons, List.length_nil]
    omega
  · rw [if_neg h4]
    by_cases h3 : r.k = 3
    · rw [if_pos h3, h.b23 (Or.inr h3)]
      simp only [List.length_append, List.length_cons, List.length_nil]
      omega
    · rw [if_neg h3]
      simp only [List.length_append, List.length_cons, List.length_nil]
      omega
theorem wrS_b {r : Rc} (h : GoodR r) : ∀ x ∈ wrS r, x < 256 := by
  have hn : ∀ n, n ≤ 1152921504606846976 → ∀ x ∈ numB n, x < 256 := fun n hn x hx => by
    have h8 : numW n ≤ 8 := numW_le (show n < 256 ^ 8 by have : (256 : Nat) ^ 8 = 18446744073709551616 := rfl; omega)
    rcases List.mem_cons.1 (show x ∈ numW n :: digs (numW n) n from hx) with rfl | h1
    · omega
    · exact digs_lt _ _ x h1
  intro x hx
  unfold wrS at hx
  rcases List.mem_append.1 hx with hx | hx
  · rcases List.mem_append.1 hx with hx | hx
    · rcases List.mem_append.1 hx with hx | hx
      · rcases List.mem_append.1 hx with hx | hx
        · have := h.k1
          have : x = r.k := by simpa using hx
          omega
        · exact hn _ h.n1 x hx
      · split at hx
        · cases hx
        · exact hn _ h.i1 x hx
    · split at hx
      · exact hn _ h.e1 x hx
      · cases hx
  · exact h.by_ x hx
theorem secS_le {r : Rc} (h : GoodR r) : 1 ≤ secS r ∧ secS r ≤ 50 := by
  have := wrS_len h
  unfold secS needW
  omega
theorem wf_n60 {n : Nat} (h : n ≤ 1152921504606846976) : (Lit.int .i64 (n : Int)).wf = true := WalkArith.wf_i64 (by omega)
theorem subS_wf {r : Rc} (h : GoodR r) : wf3 (subS r) := by
  have := h.k1
  refine ⟨?_, wf_n60 h.n1, wf_n60 h.i1⟩
  show (Lit.int .i64 ((if r.k = 2 then 1 else r.k : Nat) : Int)).wf = true
  split <;> exact wf_n60 (by omega)
end Go.Proofs.YtippipeebkkghaaGreatDoor
