/- frame's cursor: need, take. -/
import Derived.Test.YtippipeebkkghaaGreatDoorNc
import Derived.Test.YtippipeebkkghaaGreatDoorQg
import Derived.WalkLawsBesides
namespace Go.Proofs.YtippipeebkkghaaGreatDoor
set_option linter.unusedVariables false
set_option linter.unusedSimpArgs false
open Go.RowKit Go.Deep

/-- what a reader gives up with -/
abbrev gaveUp : List PanicEntry := [{ v := .iface 37 (.int .i64 51), recovered := false }]

set_option maxRecDepth 100000 in
set_option maxHeartbeats 800000 in
theorem need_yes (pv : Value) (w : World) : Calls Tryz.prog 109 #[pv, .bool true] w fun e w' => (∃ v, e = .returned v) ∧ w' = w := by
  go_enter Tryz.func109, Tryz.ntmps109
  go_wp2
  go_end0
  exact ⟨⟨_, rfl⟩, rfl⟩

set_option maxRecDepth 100000 in
set_option maxHeartbeats 800000 in
theorem need_no (pv : Value) (w : World) : Calls Tryz.prog 109 #[pv, .bool false] w fun e w' => e = .panicked gaveUp ∧ w' = w := by
  go_enter Tryz.func109, Tryz.ntmps109
  go_wp2
  exact ⟨rfl, rfl, rfl⟩

theorem Rb.keepP {S : Nat → Prop} {w w' : World} {p : Option Addr} {n : Nat} {xs : List Nat} (h : Rb w p n xs) (k : Kp S w w') (hS : ∀ a, p = some a → 0 < n → ¬ S a.block) : Rb w' p n xs := by
  rcases Nat.eq_zero_or_pos n with e | e
  · subst e
    have := List.eq_nil_of_length_eq_zero h.len
    subst this
    exact Rb.nil _ _
  · exact h.keep k (fun a ha _ => hS a ha e)
/-- block r is a cursor, with xs left, which lie in blocks of which Z holds -/
def Cu (Z : Nat → Prop) (w : World) (r : Nat) (xs : List Nat) : Prop := ∃ q m c, w.cell? ⟨r, 0, none⟩ = some (.slice q m c) ∧ w.frozen? ⟨r, 0, none⟩ = false ∧ m ≤ c ∧ (c : Int) ≤ 9223372036854775807 ∧ Rb w q m xs ∧ ∀ a, q = some a → 0 < m → a.block ≠ r ∧ Z a.block

set_option maxRecDepth 100000 in
set_option maxHeartbeats 1600000 in
theorem take_no {Z : Nat → Prop} (r n : Nat) (xs : List Nat) (w : World) (h : Cu Z w r xs) (hn : xs.length < n) : Calls Tryz.prog 196 #[.pointer (some ⟨r, 0, none⟩), .int .i64 n] w fun e w' => e = .panicked gaveUp ∧ w' = w := by
  obtain ⟨q, m, c, h1, h2, h3, h4, h5, h6⟩ := h
  have hm := h5.len
  have hd : decide ((n : Int) ≤ (m : Int)) = false := decide_eq_false (by omega)
  have hd2 : ¬ (n : Int) ≤ (m : Int) := by omega
  have HN : Hid (∀ u, Calls _ _ _ u _) := need_no (.pointer (some ⟨r, 0, none⟩))
  clear h5 h6 hn hm h2
  go_enter Tryz.func196, Tryz.ntmps196
  go_wp2_with (go_at_call 109; refine (HN.out _).mono ?_; rintro e9 w9 ⟨rfl, hw9⟩; have hw8 := hw9.symm; subst hw8; clear hw9)
  exact ⟨rfl, rfl, rfl⟩
end Go.Proofs.YtippipeebkkghaaGreatDoor
