/- The document's Reader, by states: what is left, or bad. -/
import Derived.Test.YtoepemgflbmlcaaDoorNv2
import Derived.Test.YtoepemgflbmlcaaDoorOd
namespace Go.Proofs.YtoepemgflbmlcaaDoor
set_option linter.unusedVariables false
set_option linter.unusedSimpArgs false
open Go.RowKit Go.Deep

/-- behind a number of at most so much -/
def nxtO (most : Nat) (st : Option (List Nat)) : Option (List Nat) := (st.bind (rdNum most)).map (·.2)
def vlO (most : Nat) (st : Option (List Nat)) : Nat := ((st.bind (rdNum most)).map (·.1)).getD 0
/-- behind so many numbers -/
def itO (st : Option (List Nat)) : Nat → Option (List Nat)
  | 0 => st
  | k + 1 => nxtO 1152921504606846976 (itO st k)
def takeO (n : Nat) (st : Option (List Nat)) : Option (List Nat) := st.bind (fun xs => if n ≤ xs.length then some (xs.drop n) else none)
def tkB (n : Nat) (st : Option (List Nat)) : List Nat := (st.bind (fun xs => if n ≤ xs.length then some (xs.take n) else none)).getD []
/-- its bytes are bytes -/
def Byt (st : Option (List Nat)) : Prop := ∀ xs, st = some xs → ∀ x ∈ xs, x < 256
theorem Byt.nxt {st : Option (List Nat)} (h : Byt st) (most : Nat) : Byt (nxtO most st) := fun xs e => by
  unfold nxtO at e
  obtain ⟨⟨n, t⟩, h1, rfl⟩ := Option.map_eq_some_iff.1 e
  obtain ⟨ys, h2, h3⟩ := Option.bind_eq_some_iff.1 h1
  exact (rdNum_back (h ys h2) h3).2.2.2
theorem Byt.it {st : Option (List Nat)} (h : Byt st) : ∀ k, Byt (itO st k)
  | 0 => h
  | k + 1 => (Byt.it h k).nxt _
theorem Byt.take {st : Option (List Nat)} (h : Byt st) (n : Nat) : Byt (takeO n st) := fun xs e => by
  unfold takeO at e
  obtain ⟨ys, h2, h3⟩ := Option.bind_eq_some_iff.1 e
  by_cases hn : n ≤ ys.length
  · rw [if_pos hn] at h3
    injection h3 with h3
    subst h3
    exact fun x hx => h ys h2 x (List.mem_of_mem_drop hx)
  · rw [if_neg hn] at h3
    cases h3
theorem vlO_le (most : Nat) (st : Option (List Nat)) : vlO most st ≤ most := by
  unfold vlO
  cases hq : st.bind (rdNum most) with
  | none => exact Nat.zero_le _
  | some p =>
    obtain ⟨n, t⟩ := p
    obtain ⟨ys, h2, h3⟩ := Option.bind_eq_some_iff.1 hq
    show n ≤ most
    cases ys with
    | nil => cases h3
    | cons w l =>
      rw [rdNum_cons] at h3
      by_cases hc : w ≤ 8 ∧ w ≤ l.length ∧ (l.take w).head? ≠ some 0 ∧ valB (l.take w) ≤ most
      · rw [if_pos hc] at h3
        injection h3 with h3
        injection h3 with h4 h5
        rw [← h4]
        exact hc.2.2.2
      · rw [if_neg hc] at h3
        cases h3
theorem tkB_byte {n : Nat} {st : Option (List Nat)} (h : Byt st) : ∀ x ∈ tkB n st, x < 256 := fun x hx => by
  unfold tkB at hx
  cases st with
  | none => cases hx
  | some ys =>
    by_cases hn : n ≤ ys.length
    · have e : ((some ys).bind (fun xs => if n ≤ xs.length then some (xs.take n) else none)).getD [] = ys.take n := by
        show (if n ≤ ys.length then some (ys.take n) else none).getD [] = _
        rw [if_pos hn]
        rfl
      rw [e] at hx
      exact h ys rfl x (List.mem_of_mem_take hx)
    · have e : ((some ys).bind (fun xs => if n ≤ xs.length then some (xs.take n) else none)).getD [] = [] := by
        show (if n ≤ ys.length then some (ys.take n) else none).getD [] = _
        rw [if_neg hn]
        rfl
      rw [e] at hx
      cases hx
theorem tkB_len {n : Nat} {st : Option (List Nat)} : (tkB n st).length ≤ n := by
  unfold tkB
  cases st with
  | none => exact Nat.zero_le _
  | some ys =>
    show ((if n ≤ ys.length then some (ys.take n) else none).getD []).length ≤ n
    by_cases hn : n ≤ ys.length
    · rw [if_pos hn]
      show (ys.take n).length ≤ n
      rw [List.length_take]
      omega
    · rw [if_neg hn]
      exact Nat.zero_le _

theorem readNum2 {Z : Nat → Prop} (r : Nat) (st : Option (List Nat)) (w : World) (h : Ru Z w r st) (hb : Byt st) : Calls Tryd.prog 44 #[.pointer (some ⟨r, 0, none⟩)] w fun e w' => ∃ z, e = .returned (.int .i64 z) ∧ Ru Z w' r (nxtO 1152921504606846976 st) ∧ ((nxtO 1152921504606846976 st).isSome = true → z = (vlO 1152921504606846976 st : Int)) ∧ Kp (fun b => b = r) w w' := by
  refine (readNum_ok r st w h hb).mono ?_
  rintro e w' ⟨hq, k⟩
  unfold RnRes at hq
  unfold nxtO vlO
  cases hm : st.bind (rdNum 1152921504606846976) with
  | none =>
    rw [hm] at hq
    obtain ⟨⟨z, hz⟩, hr⟩ := hq
    exact ⟨z, hz, hr, fun h => (by cases h), k⟩
  | some p =>
    obtain ⟨n, t⟩ := p
    rw [hm] at hq
    exact ⟨n, hq.1, hq.2, fun _ => rfl, k⟩

theorem rlist2 {Z : Nat → Prop} (r most : Nat) (st : Option (List Nat)) (w : World) (h : Ru Z w r st) (hm : most ≤ 1152921504606846976) (hb : Byt st) : Calls Tryd.prog 46 #[.pointer (some ⟨r, 0, none⟩), .int .i64 most] w fun e w' => e = .returned (.int .i64 (vlO most st : Int)) ∧ Ru Z w' r (nxtO most st) ∧ Kp (fun b => b = r) w w' := by
  refine (rlist_ok r most st w h hm hb).mono ?_
  rintro e w' ⟨hq, k⟩
  unfold RlRes at hq
  unfold nxtO vlO
  cases hm : st.bind (rdNum most) with
  | none =>
    rw [hm] at hq
    exact ⟨hq.1, hq.2, k⟩
  | some p =>
    obtain ⟨n, t⟩ := p
    rw [hm] at hq
    exact ⟨hq.1, hq.2, k⟩

theorem rtake2 {Z : Nat → Prop} (r n : Nat) (st : Option (List Nat)) (w : World) (h : Ru Z w r st) : Calls Tryd.prog 45 #[.pointer (some ⟨r, 0, none⟩), .int .i64 n] w fun e w' => (∃ q m c, e = .returned (.slice q m c) ∧ m ≤ c ∧ Rb w' q m (tkB n st) ∧ Ru Z w' r (takeO n st) ∧ ∀ a, q = some a → 0 < m → a.block ≠ r ∧ Z a.block) ∧ Kp (fun b => b = r) w w' := by
  refine (rtake_ok r n st w h).mono ?_
  rintro e w' ⟨hq, k⟩
  refine ⟨?_, k⟩
  unfold TkRes at hq
  unfold takeO tkB
  cases st with
  | none => exact ⟨none, 0, 0, hq.1, Nat.le_refl _, Rb.nil _ _, hq.2, fun a e => (by cases e)⟩
  | some xs =>
    dsimp only at hq
    show ∃ q m c, _ ∧ _ ∧ Rb w' q m ((if n ≤ xs.length then some (xs.take n) else none).getD []) ∧ Ru Z w' r (if n ≤ xs.length then some (xs.drop n) else none) ∧ ∀ a, q = some a → 0 < m → a.block ≠ r ∧ Z a.block
    by_cases hn : n ≤ xs.length
    · rw [if_pos hn] at hq ⊢
      rw [if_pos hn]
      obtain ⟨q, c, h1, h2, h3, h4, h5⟩ := hq
      exact ⟨q, n, c, h1, h2, h3, h4, h5⟩
    · rw [if_neg hn] at hq ⊢
      rw [if_neg hn]
      exact ⟨none, 0, 0, hq.1, Nat.le_refl _, Rb.nil _ _, hq.2, fun a e => (by cases e)⟩
end Go.Proofs.YtoepemgflbmlcaaDoor
