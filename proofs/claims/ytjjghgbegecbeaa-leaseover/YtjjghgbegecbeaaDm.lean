/- Clocks that drift, plain: what each leads each other one by, behind any ticks (the latest one first). -/
import Derived.Test.YtjjghgbegecbeaaProg
namespace Go.Proofs.Ytjjghgbegecbeaa

/-- how far clock a leads clock b -/
def lead : List Nat → Nat → Nat → Nat
  | [], _, _ => 0
  | x :: h, a, b => if a = b then 0 else if x = a then lead h a b + 1 else if x = b then lead h a b - 2 else lead h a b
/-- may it tick -/
def may (N : Nat) (h : List Nat) (n : Nat) : Prop := ∀ o, o < N → lead h n o < 2
/-- ticks, each of which might be -/
def adm (N : Nat) : List Nat → Prop
  | [] => True
  | x :: h => x < N ∧ may N h x ∧ adm N h
theorem lead_self (h : List Nat) (a : Nat) : lead h a a = 0 := by cases h <;> simp [lead]
theorem lead_le {N : Nat} : ∀ {h : List Nat}, adm N h → ∀ a b, a < N → b < N → lead h a b ≤ 2
  | [], _, a, b, _, _ => by simp [lead]
  | x :: h, H, a, b, ha, hb => by
    obtain ⟨h1, h2, h3⟩ := H
    have := lead_le h3 a b ha hb
    unfold lead
    split
    · omega
    · split
      · rename_i e; subst e; have := h2 b hb; omega
      · split <;> omega
theorem lead_tick (h : List Nat) (x o : Nat) (ne : o ≠ x) : lead (x :: h) x o = lead h x o + 1 := by
  show (if x = o then 0 else if x = x then lead h x o + 1 else if x = o then lead h x o - 2 else lead h x o) = _
  rw [if_neg (Ne.symm ne), if_pos rfl]
theorem lead_ticked (h : List Nat) (x o : Nat) (ne : o ≠ x) : lead (x :: h) o x = lead h o x - 2 := by
  show (if o = x then 0 else if x = o then lead h o x + 1 else if x = x then lead h o x - 2 else lead h o x) = _
  rw [if_neg ne, if_neg (Ne.symm ne), if_pos rfl]
theorem lead_other (h : List Nat) (x a b : Nat) (h1 : a ≠ x) (h2 : b ≠ x) : lead (x :: h) a b = lead h a b := by
  by_cases e : a = b
  · subst e; rw [lead_self, lead_self]
  · show (if a = b then 0 else if x = a then lead h a b + 1 else if x = b then lead h a b - 2 else lead h a b) = _
    rw [if_neg e, if_neg (Ne.symm h1), if_neg (Ne.symm h2)]

/-- when it ticked last -/
def last : List Nat → Nat → Nat
  | [], _ => 0
  | x :: h, a => if x = a then h.length + 1 else last h a
theorem last_le : ∀ (h : List Nat) (a : Nat), last h a ≤ h.length
  | [], _ => by simp [last]
  | x :: h, a => by
    have := last_le h a
    unfold last
    split <;> simp <;> omega
theorem lead_last {N : Nat} : ∀ {h : List Nat}, adm N h → ∀ a b, a < N → b < N → 1 ≤ lead h a b → last h b < last h a
  | [], _, a, b, _, _, h => by simp [lead] at h
  | x :: h, H, a, b, ha, hb, hl => by
    obtain ⟨h1, h2, h3⟩ := H
    by_cases e : a = b
    · subst e; rw [lead_self] at hl; omega
    · by_cases ea : a = x
      · subst ea
        have := last_le h b
        unfold last
        rw [if_pos rfl, if_neg e]
        omega
      · by_cases eb : b = x
        · subst eb
          rw [lead_ticked h b a ea] at hl
          have := lead_le h3 a b ha hb
          omega
        · rw [lead_other h x a b ea eb] at hl
          unfold last
          rw [if_neg (Ne.symm ea), if_neg (Ne.symm eb)]
          exact lead_last h3 a b ha hb hl
theorem least (f : Nat → Nat) : ∀ N, 1 ≤ N → ∃ n, n < N ∧ ∀ o, o < N → f n ≤ f o
  | 0, h => by omega
  | N + 1, _ => by
    by_cases h0 : N = 0
    · subst h0
      refine ⟨0, by omega, fun o ho => ?_⟩
      have e : o = 0 := by omega
      subst e
      exact Nat.le_refl _
    · obtain ⟨n, hn, H⟩ := least f N (by omega)
      by_cases e : f n ≤ f N
      · exact ⟨n, by omega, fun o ho => by
          by_cases eo : o = N
          · subst eo; exact e
          · exact H o (by omega)⟩
      · exact ⟨N, by omega, fun o ho => by
          by_cases eo : o = N
          · subst eo; exact Nat.le_refl _
          · have := H o (by omega); omega⟩
/-- there is always one that may tick -/
theorem goes {N : Nat} {h : List Nat} (hN : 1 ≤ N) (H : adm N h) : ∃ n, n < N ∧ may N h n := by
  obtain ⟨n, hn, L⟩ := least (last h) N hN
  refine ⟨n, hn, fun o ho => ?_⟩
  by_cases e : 1 ≤ lead h n o
  · have := lead_last H n o hn ho e
    have := L o ho
    omega
  · omega
/-- in any stretch none ticks more than twice as often as another one, and what it leads by more -/
theorem stretch : ∀ (s p : List Nat) (a b : Nat), s.count a ≤ 2 * s.count b + lead (s ++ p) a b
  | [], p, a, b => by simp
  | x :: s, p, a, b => by
    have ih := stretch s p a b
    by_cases e : a = b
    · subst e; omega
    · show _ ≤ _ + (if a = b then 0 else if x = a then lead (s ++ p) a b + 1 else if x = b then lead (s ++ p) a b - 2 else lead (s ++ p) a b)
      rw [if_neg e, List.count_cons, List.count_cons]
      by_cases ea : x = a
      · subst ea
        have : (x == b) = false := by simp [e]
        simp only [beq_self_eq_true, this, if_true]
        simp
        omega
      · by_cases eb : x = b
        · subst eb
          have : (x == a) = false := by simp [ea]
          simp only [beq_self_eq_true, this, if_true]
          simp [ea]
          omega
        · have h1 : (x == a) = false := by simp [ea]
          have h2 : (x == b) = false := by simp [eb]
          simp [h1, h2, ea, eb]
          omega
theorem adm_drop {N : Nat} : ∀ (s : List Nat) {p : List Nat}, adm N (s ++ p) → adm N p
  | [], _, h => h
  | _ :: s, _, h => adm_drop s h.2.2
theorem bounds {N : Nat} {s p : List Nat} (H : adm N (s ++ p)) {a b : Nat} (ha : a < N) (hb : b < N) : s.count a ≤ 2 * s.count b + 2 := by
  have := stretch s p a b
  have := lead_le H a b ha hb
  omega
instance (N : Nat) (h : List Nat) (n : Nat) : Decidable (may N h n) := inferInstanceAs (Decidable (∀ o, o < N → lead h n o < 2))
end Go.Proofs.Ytjjghgbegecbeaa
