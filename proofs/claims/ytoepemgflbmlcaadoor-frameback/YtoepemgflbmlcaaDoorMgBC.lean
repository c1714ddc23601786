/- Texts of this proof, joined: Oj, Ok. -/
import Derived.Test.YtoepemgflbmlcaaDoorMgBB
import Derived.Test.YtoepemgflbmlcaaDoorMgAR
import Derived.Test.YtoepemgflbmlcaaDoorMgAF
/- The document's Reader, by states: what is left, or bad. -/
namespace Go.Proofs.YtoepemgflbmlcaaDoor
set_option linter.unusedVariables false
set_option linter.unusedSimpArgs false
open Go.RowKit Go.Deep

/-- behind a number of at most so much -/
def nxtO (most : Nat) (st : Option (List Nat)) : Option (List Nat) := (st.bind (rdNum most)).map (·.2)
def vlO (most : Nat) (st : Option (List Nat)) : Nat := ((st.bind (rdNum most)).map (·.1)).getD 0
/-- behind so many numbers -/
def itO (st : Option (List Nat)) : Nat → Option (List Nat)
  | 0 => st
  | k + 1 => nxtO 1152921504606846976 (itO st k)
def takeO (n : Nat) (st : Option (List Nat)) : Option (List Nat) := st.bind (fun xs => if n ≤ xs.length then some (xs.drop n) else none)
def tkB (n : Nat) (st : Option (List Nat)) : List Nat := (st.bind (fun xs => if n ≤ xs.length then some (xs.take n) else none)).getD []
/-- its bytes are bytes -/
def Byt (st : Option (List Nat)) : Prop := ∀ xs, st = some xs → ∀ x ∈ xs, x < 256
theorem Byt.nxt {st : Option (List Nat)} (h : Byt st) (most : Nat) : Byt (nxtO most st) := fun xs e => by
  unfold nxtO at e
  obtain ⟨⟨n, t⟩, h1, rfl⟩ := Option.map_eq_some_iff.1 e
  obtain ⟨ys, h2, h3⟩ := Option.bind_eq_some_iff.1 h1
  exact (rdNum_back (h ys h2) h3).2.2.2
theorem Byt.it {st : Option (List Nat)} (h : Byt st) : ∀ k, Byt (itO st k)
  | 0 => h
  | k + 1 => (Byt.it h k).nxt _
theorem Byt.take {st : Option (List Nat)} (h : Byt st) (n : Nat) : Byt (takeO n st) := fun xs e => by
  unfold takeO at e
  obtain ⟨ys, h2, h3⟩ := Option.bind_eq_some_iff.1 e
  by_cases hn : n ≤ ys.length
  · rw [if_pos hn] at h3
    injection h3 with h3
    subst h3
    exact fun x hx => h ys h2 x (List.mem_of_mem_drop hx)
  · rw [if_neg hn] at h3
    cases h3
theorem vlO_le (most : Nat) (st : Option (List Nat)) : vlO most st ≤ most := by
  unfold vlO
  cases hq : st.bind (rdNum most) with
  | none => exact Nat.zero_le _
  | some p =>
    obtain ⟨n, t⟩ := p
    obtain ⟨ys, h2, h3⟩ := Option.bind_eq_some_iff.1 hq
    show n ≤ most
    cases ys with
    | nil => cases h3
    | cons w l =>
      rw [rdNum_cons] at h3
      by_cases hc : w ≤ 8 ∧ w ≤ l.length ∧ (l.take w).head? ≠ some 0 ∧ valB (l.take w) ≤ most
      · rw [if_pos hc] at h3
        injection h3 with h3
        injection h3 with h4 h5
        rw [← h4]
        exact hc.2.2.2
      · rw [if_neg hc] at h3
        cases h3
theorem tkB_byte {n : Nat} {st : Option (List Nat)} (h : Byt st) : ∀ x ∈ tkB n st, x < 256 := fun x hx => by
  unfold tkB at hx
  cases st with
  | none => cases hx
  | some ys =>
    by_cases hn : n ≤ ys.length
    · have e : ((some ys).bind (fun xs => if n ≤ xs.length then some (xs.take n) else none)).getD [] = ys.take n := by
        show (if n ≤ ys.length then some (ys.take n) else none).getD [] = _
        rw [if_pos hn]
        rfl
      rw [e] at hx
      exact h ys rfl x (List.mem_of_mem_take hx)
    · have e : ((some ys).bind (fun xs => if n ≤ xs.length then some (xs.take n) else none)).getD [] = [] := by
        show (if n ≤ ys.length then some (ys.take n) else none).getD [] = _
        rw [if_neg hn]
        rfl
      rw [e] at hx
      cases hx
theorem tkB_len {n : Nat} {st : Option (List Nat)} : (tkB n st).length ≤ n := by
  unfold tkB
  cases st with
  | none => exact Nat.zero_le _
  | some ys =>
    show ((if n ≤ ys.length then some (ys.take n) else none).getD []).length ≤ n
    by_cases hn : n ≤ ys.length
    · rw [if_pos hn]
      show (ys.take n).length ≤ n
      rw [List.length_take]
      omega
    · rw [if_neg hn]
      exact Nat.zero_le _

theorem readNum2 {Z : Nat → Prop} (r : Nat) (st : Option (List Nat)) (w : World) (h : Ru Z w r st) (hb : Byt st) : Calls Tryd.prog 44 #[.pointer (some ⟨r, 0, none⟩)] w fun e w' => ∃ z, e = .returned (.int .i64 z) ∧ Ru Z w' r (nxtO 1152921504606846976 st) ∧ ((nxtO 1152921504606846976 st).isSome = true → z = (vlO 1152921504606846976 st : Int)) ∧ Kp (fun b => b = r) w w' := by
  refine (readNum_ok r st w h hb).mono ?_
  rintro e w' ⟨hq, k⟩
  unfold RnRes at hq
  unfold nxtO vlO
  cases hm : st.bind (rdNum 1152921504606846976) with
  | none =>
    rw [hm] at hq
    obtain ⟨⟨z, hz⟩, hr⟩ := hq
    exact ⟨z, hz, hr, fun h => (by cases h), k⟩
  | some p =>
    obtain ⟨n, t⟩ := p
    rw [hm] at hq
    exact ⟨n, hq.1, hq.2, fun _ => rfl, k⟩

theorem rlist2 {Z : Nat → Prop} (r most : Nat) (st : Option (List Nat)) (w : World) (h : Ru Z w r st) (hm : most ≤ 1152921504606846976) (hb : Byt st) : Calls Tryd.prog 46 #[.pointer (some ⟨r, 0, none⟩), .int .i64 most] w fun e w' => e = .returned (.int .i64 (vlO most st : Int)) ∧ Ru Z w' r (nxtO most st) ∧ Kp (fun b => b = r) w w' := by
  refine (rlist_ok r most st w h hm hb).mono ?_
  rintro e w' ⟨hq, k⟩
  unfold RlRes at hq
  unfold nxtO vlO
  cases hm : st.bind (rdNum most) with
  | none =>
    rw [hm] at hq
    exact ⟨hq.1, hq.2, k⟩
  | some p =>
    obtain ⟨n, t⟩ := p
    rw [hm] at hq
    exact ⟨hq.1, hq.2, k⟩

theorem rtake2 {Z : Nat → Prop} (r n : Nat) (st : Option (List Nat)) (w : World) (h : Ru Z w r st) : Calls Tryd.prog 45 #[.pointer (some ⟨r, 0, none⟩), .int .i64 n] w fun e w' => (∃ q m c, e = .returned (.slice q m c) ∧ m ≤ c ∧ Rb w' q m (tkB n st) ∧ Ru Z w' r (takeO n st) ∧ ∀ a, q = some a → 0 < m → a.block ≠ r ∧ Z a.block) ∧ Kp (fun b => b = r) w w' := by
  refine (rtake_ok r n st w h).mono ?_
  rintro e w' ⟨hq, k⟩
  refine ⟨?_, k⟩
  unfold TkRes at hq
  unfold takeO tkB
  cases st with
  | none => exact ⟨none, 0, 0, hq.1, Nat.le_refl _, Rb.nil _ _, hq.2, fun a e => (by cases e)⟩
  | some xs =>
    dsimp only at hq
    show ∃ q m c, _ ∧ _ ∧ Rb w' q m ((if n ≤ xs.length then some (xs.take n) else none).getD []) ∧ Ru Z w' r (if n ≤ xs.length then some (xs.drop n) else none) ∧ ∀ a, q = some a → 0 < m → a.block ≠ r ∧ Z a.block
    by_cases hn : n ≤ xs.length
    · rw [if_pos hn] at hq ⊢
      rw [if_pos hn]
      obtain ⟨q, c, h1, h2, h3, h4, h5⟩ := hq
      exact ⟨q, n, c, h1, h2, h3, h4, h5⟩
    · rw [if_neg hn] at hq ⊢
      rw [if_neg hn]
      exact ⟨none, 0, 0, hq.1, Nat.le_refl _, Rb.nil _ _, hq.2, fun a e => (by cases e)⟩
end Go.Proofs.YtoepemgflbmlcaaDoor

/- The document's reading of a command, plain: it is the program's. -/
namespace Go.Proofs.YtoepemgflbmlcaaDoor
set_option linter.unusedVariables false
set_option linter.unusedSimpArgs false

theorem itO_seqN (xs : List Nat) : ∀ k, itO (some xs) k = seqN xs k
  | 0 => rfl
  | k + 1 => by
    show nxtO _ (itO (some xs) k) = (seqN xs k).bind _
    rw [itO_seqN xs k]
    unfold nxtO
    cases seqN xs k with
    | none => rfl
    | some t => rfl
theorem itO_none : ∀ k, itO none k = none
  | 0 => rfl
  | k + 1 => by show nxtO _ (itO none k) = none; rw [itO_none k]; rfl
theorem vlO_seqV (xs : List Nat) (k : Nat) : vlO 1152921504606846976 (itO (some xs) k) = seqV xs k := by
  rw [itO_seqN]
  unfold vlO seqV
  cases (seqN xs k).bind (rdNum 1152921504606846976) with
  | none => rfl
  | some p => rfl
def st8 (st : Option (List Nat)) : Option (List Nat) := nxtO 1152921504606846976 (itO st 7)
def st10 (st : Option (List Nat)) : Option (List Nat) := itO (st8 st) 2
def n0O (st : Option (List Nat)) : Nat := vlO 8 (st10 st)
def st11 (st : Option (List Nat)) : Option (List Nat) := nxtO 8 (st10 st)
def st12 (st : Option (List Nat)) : Option (List Nat) := takeO (n0O st) (st11 st)
def n1O (st : Option (List Nat)) : Nat := vlO 255 (st12 st)
def st13 (st : Option (List Nat)) : Option (List Nat) := nxtO 255 (st12 st)
def stF (st : Option (List Nat)) : Option (List Nat) := itO (st13 st) (n1O st)
def sumO (st : Option (List Nat)) : Nat := vlO 1152921504606846976 (itO st 7)
theorem nxtO_some {most : Nat} {st : Option (List Nat)} {t : List Nat} (h : nxtO most st = some t) : ∃ xs, st = some xs ∧ rdNum most xs = some (vlO most st, t) := by
  unfold nxtO at h
  obtain ⟨⟨n, u⟩, h1, rfl⟩ := Option.map_eq_some_iff.1 h
  obtain ⟨xs, h2, h3⟩ := Option.bind_eq_some_iff.1 h1
  refine ⟨xs, h2, ?_⟩
  unfold vlO
  rw [h1, h3]
  rfl
theorem nxtO_of {most n : Nat} {xs t : List Nat} (h : rdNum most xs = some (n, t)) : nxtO most (some xs) = some t ∧ vlO most (some xs) = n := by
  unfold nxtO vlO
  show (rdNum most xs).map _ = _ ∧ ((rdNum most xs).map _).getD 0 = n
  rw [h]
  exact ⟨rfl, rfl⟩
theorem itO_some {st : Option (List Nat)} {k : Nat} {t : List Nat} (h : itO st k = some t) : ∃ xs, st = some xs ∧ seqN xs k = some t := by
  cases st with
  | none => rw [itO_none] at h; cases h
  | some xs => exact ⟨xs, rfl, by rw [← itO_seqN]; exact h⟩
theorem takeO_some {n : Nat} {st : Option (List Nat)} {t : List Nat} (h : takeO n st = some t) : ∃ xs, st = some xs ∧ n ≤ xs.length ∧ t = xs.drop n ∧ tkB n st = xs.take n := by
  unfold takeO at h
  obtain ⟨xs, h1, h2⟩ := Option.bind_eq_some_iff.1 h
  subst h1
  by_cases hn : n ≤ xs.length
  · rw [if_pos hn] at h2
    injection h2 with h2
    refine ⟨xs, rfl, hn, h2.symm, ?_⟩
    unfold tkB
    show (if n ≤ xs.length then some (xs.take n) else none).getD [] = _
    rw [if_pos hn]
    rfl
  · rw [if_neg hn] at h2
    cases h2
/-- the command that the document reads -/
def cpO (st : Option (List Nat)) : Cp := ⟨vlO 1152921504606846976 (itO st 0), vlO 1152921504606846976 (itO st 1), vlO 1152921504606846976 (itO st 2), vlO 1152921504606846976 (itO st 3), vlO 1152921504606846976 (itO st 4), vlO 1152921504606846976 (itO st 5), vlO 1152921504606846976 (itO st 6), sumO st, vlO 1152921504606846976 (itO (st8 st) 0), vlO 1152921504606846976 (itO (st8 st) 1), tkB (n0O st) (st11 st), (List.range (n1O st)).map (fun k => vlO 1152921504606846976 (itO (st13 st) k))⟩
theorem stF_some {st : Option (List Nat)} {t : List Nat} (h : stF st = some t) : ∃ xs, st = some xs ∧ (sumO st ≤ 4294967295 → rdCmd xs = some (cpO st, t)) ∧ (4294967295 < sumO st → rdCmd xs = none) := by
  obtain ⟨t7, e13, h6⟩ := itO_some h
  obtain ⟨t6, e12, h5⟩ := nxtO_some e13
  obtain ⟨u5, e11, hn, et6, hk⟩ := takeO_some e12
  obtain ⟨t5, e10, h4⟩ := nxtO_some e11
  obtain ⟨t4, e8, h3⟩ := itO_some e10
  obtain ⟨t3, e7, h2⟩ := nxtO_some e8
  obtain ⟨xs, e0, h1⟩ := itO_some e7
  subst e0
  have hT : rdText 8 t5 = some (tkB (n0O (some xs)) (st11 (some xs)), t6) := by
    unfold rdText
    rw [h4]
    dsimp only
    show (if n0O (some xs) ≤ u5.length then some (u5.take (n0O (some xs)), u5.drop (n0O (some xs))) else none) = _
    rw [if_pos hn, hk, et6]
  have hsum : rdNum 4294967295 t3 = if sumO (some xs) ≤ 4294967295 then some (sumO (some xs), t4) else none := by
    rw [rdNum_less (by decide), h2]
    rfl
  refine ⟨xs, rfl, fun hs => ?_, fun hs => ?_⟩
  · rw [if_pos hs] at hsum
    rw [rdCmd_yes h1 hsum h3 hT h5 h6]
    unfold cpO
    rw [vlO_seqV, vlO_seqV, vlO_seqV, vlO_seqV, vlO_seqV, vlO_seqV, vlO_seqV, e8, vlO_seqV, vlO_seqV, e13]
    simp only [vlO_seqV]
    rfl
  · rw [if_neg (by omega)] at hsum
    exact rdCmd_no2 h1 hsum
theorem stF_none {xs : List Nat} (h : stF (some xs) = none) : rdCmd xs = none := by
  cases h1 : seqN xs 7 with
  | none => exact rdCmd_no1 h1
  | some t3 =>
    cases h2 : rdNum 4294967295 t3 with
    | none => exact rdCmd_no2 h1 h2
    | some p =>
      obtain ⟨s, t4⟩ := p
      have h2' : rdNum 1152921504606846976 t3 = some (s, t4) := by
        rw [rdNum_less (by decide)] at h2
        obtain ⟨⟨a, b⟩, ha, hb⟩ := Option.bind_eq_some_iff.1 h2
        dsimp only at hb
        by_cases hl : a ≤ 4294967295
        · rw [if_pos hl] at hb
          injection hb with hb
          rw [ha, hb]
        · rw [if_neg hl] at hb
          cases hb
      have e8 : st8 (some xs) = some t4 := by
        unfold st8
        rw [itO_seqN, h1]
        exact (nxtO_of h2').1
      cases h3 : seqN t4 2 with
      | none => exact rdCmd_no3 h1 h2 h3
      | some t5 =>
        have e10 : st10 (some xs) = some t5 := by
          unfold st10
          rw [e8, itO_seqN, h3]
        cases h4 : rdText 8 t5 with
        | none => exact rdCmd_no4 h1 h2 h3 h4
        | some p =>
          obtain ⟨sx, t6⟩ := p
          unfold rdText at h4
          cases h41 : rdNum 8 t5 with
          | none => rw [h41] at h4; cases h4
          | some p =>
            obtain ⟨m, u5⟩ := p
            rw [h41] at h4
            dsimp only at h4
            by_cases hl : m ≤ u5.length
            · rw [if_pos hl] at h4
              injection h4 with h4
              injection h4 with h42 h43
              have e12 : st12 (some xs) = some t6 := by
                unfold st12 n0O st11
                rw [e10, (nxtO_of h41).1, (nxtO_of h41).2]
                unfold takeO
                show (if m ≤ u5.length then some (u5.drop m) else none) = _
                rw [if_pos hl, h43]
              have hT : rdText 8 t5 = some (sx, t6) := by
                unfold rdText
                rw [h41]
                dsimp only
                rw [if_pos hl, h42, h43]
              cases h5 : rdNum 255 t6 with
              | none => exact rdCmd_no5 h1 h2 h3 hT h5
              | some p =>
                obtain ⟨n, t7⟩ := p
                cases h6 : seqN t7 n with
                | none => exact rdCmd_no6 h1 h2 h3 hT h5 h6
                | some t8 =>
                  exfalso
                  have : stF (some xs) = some t8 := by
                    unfold stF st13 n1O
                    rw [e12, (nxtO_of h5).1, (nxtO_of h5).2, itO_seqN, h6]
                  rw [h] at this
                  cases this
            · rw [if_neg hl] at h4
              cases h4
/-- the command of bytes that is read and may be, and what is left -/
def rdX (st : Option (List Nat)) : Option (Cp × List Nat) := (st.bind rdCmd).bind (fun p => if mayC (csOf p.1) (intsOf p.1.nodes) = true then some p else none)
end Go.Proofs.YtoepemgflbmlcaaDoor
