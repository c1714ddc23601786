/- Numbers that are read one behind the other, then laid into a struct. -/
import Derived.Test.YtippipeebkkghaaGreatDoorNr
import Derived.Test.YtippipeebkkghaaGreatDoorWq
namespace Go.Proofs.YtippipeebkkghaaGreatDoor
set_option linter.unusedVariables false
set_option linter.unusedSimpArgs false
open Go.RowKit Go.Deep

/-- what is left behind so many numbers -/
def seqN (xs : List Nat) : Nat → Option (List Nat)
  | 0 => some xs
  | i + 1 => (seqN xs i).bind (fun t => (rdNum 1152921504606846976 t).map (·.2))
/-- the number behind so many -/
def seqV (xs : List Nat) (i : Nat) : Nat := match (seqN xs i).bind (rdNum 1152921504606846976) with
  | some p => p.1
  | none => 0
theorem seqN_byte {xs : List Nat} (hb : ∀ x ∈ xs, x < 256) : ∀ (i : Nat) (t : List Nat), seqN xs i = some t → ∀ x ∈ t, x < 256
  | 0, t, h => by
    cases h
    exact hb
  | i + 1, t, h => by
    unfold seqN at h
    obtain ⟨u, hu, h⟩ := Option.bind_eq_some_iff.1 h
    obtain ⟨⟨n, v⟩, hv, rfl⟩ := Option.map_eq_some_iff.1 h
    exact (rdNum_back (seqN_byte hb i u hu) hv).2.2.2
theorem seqN_step {xs t u : List Nat} {i n : Nat} (h : seqN xs i = some t) (hr : rdNum 1152921504606846976 t = some (n, u)) : seqN xs (i + 1) = some u ∧ seqV xs i = n := by
  constructor
  · show (seqN xs i).bind _ = _
    rw [h]
    show (rdNum _ t).map _ = _
    rw [hr]
    rfl
  · unfold seqV
    rw [h]
    show (match rdNum _ t with | some p => p.1 | none => 0) = n
    rw [hr]
theorem seqN_nums : ∀ (k : Nat) (xs t : List Nat), seqN xs k = some t → rdNums 1152921504606846976 k xs = some ((List.range k).map (seqV xs), t)
  | 0, xs, t, h => by
    cases h
    rfl
  | k + 1, xs, t, h => by
    have hs : ∀ j u, seqN xs (j + 1) = some u → ∃ n v, rdNum 1152921504606846976 xs = some (n, v) := fun j => by
      induction j with
      | zero =>
        intro u hu
        obtain ⟨a, ha, hb⟩ := Option.bind_eq_some_iff.1 (show (seqN xs 0).bind _ = some u from hu)
        cases ha
        obtain ⟨⟨n, v⟩, hv, _⟩ := Option.map_eq_some_iff.1 hb
        exact ⟨n, v, hv⟩
      | succ j ih =>
        intro u hu
        obtain ⟨a, ha, hb⟩ := Option.bind_eq_some_iff.1 (show (seqN xs (j + 1)).bind _ = some u from hu)
        exact ih a ha
    obtain ⟨n, v, hv⟩ := hs k t h
    have hsh : ∀ j, seqN xs (j + 1) = seqN v j := fun j => by
      induction j with
      | zero => exact (seqN_step (i := 0) rfl hv).1
      | succ j ih =>
        show (seqN xs (j + 1)).bind _ = (seqN v j).bind _
        rw [ih]
    have hV : ∀ j, seqV xs (j + 1) = seqV v j := fun j => by
      unfold seqV
      rw [hsh]
    rw [hsh] at h
    have := seqN_nums k v t h
    unfold rdNums
    rw [hv]
    dsimp only
    rw [this]
    dsimp only
    congr 2
    rw [List.range_succ_eq_map, List.map_cons, List.map_map]
    congr 1
    · exact (seqN_step (i := 0) rfl hv).2.symm
    · exact List.map_congr_left (fun j _ => (hV j).symm)
theorem nums_seqN : ∀ (k : Nat) (xs : List Nat), seqN xs k = none → rdNums 1152921504606846976 k xs = none
  | 0, xs, h => by cases h
  | k + 1, xs, h => by
    cases hv : rdNum 1152921504606846976 xs with
    | none => unfold rdNums; rw [hv]
    | some p =>
      obtain ⟨n, v⟩ := p
      have hsh : ∀ j, seqN xs (j + 1) = seqN v j := fun j => by
        induction j with
        | zero => exact (seqN_step (i := 0) rfl hv).1
        | succ j ih =>
          show (seqN xs (j + 1)).bind _ = (seqN v j).bind _
          rw [ih]
      rw [hsh] at h
      have := nums_seqN k v h
      unfold rdNums
      rw [hv]
      dsimp only
      rw [this]
/-- cells with numbers laid into them -/
def setsN (xs : List Nat) : Nat → List Nat → List Value → List Value
  | _, [], cs => cs
  | i, o :: os, cs => setsN xs (i + 1) os (cs.set o (.int .i64 (seqV xs i : Int)))
theorem setsN_snoc (xs : List Nat) : ∀ (os : List Nat) (i o : Nat) (cs : List Value), setsN xs i (os ++ [o]) cs = (setsN xs i os cs).set o (.int .i64 (seqV xs (i + os.length) : Int))
  | [], i, o, cs => rfl
  | x :: os, i, o, cs => by
    show setsN xs (i + 1) (os ++ [o]) _ = _
    rw [setsN_snoc xs os (i + 1) o]
    show List.set (setsN xs (i + 1) os _) o _ = List.set (setsN xs (i + 1) os _) o _
    rw [show i + 1 + os.length = i + (x :: os).length by simp; omega]
theorem setsN_len (xs : List Nat) : ∀ (os : List Nat) (i : Nat) (cs : List Value), (setsN xs i os cs).length = cs.length
  | [], _, _ => rfl
  | x :: os, i, cs => by
    show (setsN xs (i + 1) os _).length = _
    rw [setsN_len xs os (i + 1), List.length_set]
theorem Lv.set1' {w : World} {g : Nat} {cs : List Value} (h : Lv w g cs) (o : Nat) (v : Value) (ho : o < cs.length) : Lv (w.setCell ⟨g, o, none⟩ v) g (cs.set o v) := by
  have := h.set1 o v ho
  rw [List.append_assoc, List.singleton_append] at this
  rw [List.set_eq_take_append_cons_drop, if_pos ho]
  exact this
theorem Cu.keep {Z S : Nat → Prop} {w w' : World} {r : Nat} {xs : List Nat} (h : Cu Z w r xs) (k : Kp S w w') (hr : ¬ S r) (hS : ∀ b, Z b → ¬ S b) : Cu Z w' r xs := by
  obtain ⟨q, m, c, h1, h2, h3, h4, h5, h6⟩ := h
  refine ⟨q, m, c, k.cellv h1 hr, ?_, h3, h4, h5.keepP k (fun a ha hpos => hS _ (h6 a ha hpos).2), h6⟩
  have hlt : r < w.heap.size := World.block_lt_of_cell? _ _ h1
  rw [← h2]
  exact World.frozen?_of_block (w := w) (k.block r hlt hr)
/-- behind so many links of the chain: k numbers read, then laid into the cells -/
def NW (Z : Nat → Prop) (k r g : Nat) (xs : List Nat) (cs : List Value) (offs : List Nat) (w0 : World) (j : Nat) (w : World) : Prop :=
  Kp (fun b => b = r ∨ b = g) w0 w ∧ ∃ t, seqN xs (min j k) = some t ∧ Cu Z w r t ∧ Lv w g (setsN xs 0 (offs.take (j - k)) cs)
theorem NW.grow {Z : Nat → Prop} {k r g : Nat} {xs : List Nat} {cs : List Value} {offs : List Nat} {w0 : World} {j : Nat} {w w' : World} (h : NW Z k r g xs cs offs w0 j w) (hk : Kp (fun _ => False) w w') : NW Z k r g xs cs offs w0 j w' := by
  obtain ⟨h1, t, h2, h3, h4⟩ := h
  exact ⟨h1.trans hk (fun _ _ e => e.elim), t, h2, h3.keep hk id (fun _ _ => id), h4.keep hk id⟩
theorem seqN_none {xs : List Nat} {i k : Nat} (h : seqN xs i = none) (hk : i ≤ k) : seqN xs k = none := by
  obtain ⟨d, rfl⟩ := Nat.le.dest hk
  clear hk
  induction d with
  | zero => exact h
  | succ d ih =>
    show (seqN xs (i + d)).bind _ = none
    rw [ih]
    rfl
/-- a number is read, or it gives up -/
theorem NW.call {Z : Nat → Prop} {k r g : Nat} {xs : List Nat} {cs : List Value} {offs : List Nat} {w0 : World} {j : Nat} {w : World} (h : NW Z k r g xs cs offs w0 j w) (hj : j < k) (hb : ∀ x ∈ xs, x < 256) (hrg : r ≠ g) (hZg : ¬ Z g) :
    Calls Tryz.prog 154 #[.pointer (some ⟨r, 0, none⟩)] w fun e w' => (e = .returned (.int .i64 (seqV xs j : Int)) ∧ NW Z k r g xs cs offs w0 (j + 1) w') ∨ e = .panicked gaveUp ∧ Kp (fun b => b = r ∨ b = g) w0 w' ∧ seqN xs (j + 1) = none := by
  obtain ⟨h1, t, h2, h3, h4⟩ := h
  rw [Nat.min_eq_left (by omega)] at h2
  rw [show j - k = 0 by omega] at h4
  refine (number_ok r t w h3 (seqN_byte hb j t h2)).mono ?_
  rintro e w' ⟨hu, hk⟩
  have hk2 : Kp (fun b => b = r ∨ b = g) w0 w' := h1.trans hk (fun b _ e => Or.inl e)
  unfold UpRes at hu
  cases hq : rdNum 1152921504606846976 t with
  | none =>
    rw [hq] at hu
    refine Or.inr ⟨hu, hk2, ?_⟩
    show (seqN xs j).bind _ = none
    rw [h2]
    show (rdNum _ t).map _ = none
    rw [hq]
    rfl
  | some p =>
    obtain ⟨n, u⟩ := p
    rw [hq] at hu
    obtain ⟨e1, e2⟩ := seqN_step h2 hq
    refine Or.inl ⟨by rw [hu.1, e2], hk2, u, ?_, hu.2, ?_⟩
    · rw [Nat.min_eq_left (by omega)]
      exact e1
    · rw [show j + 1 - k = 0 by omega]
      exact h4.keep hk (fun e => hrg e.symm)
/-- a number is laid into its cell -/
theorem NW.store {Z : Nat → Prop} {k r g : Nat} {xs : List Nat} {cs : List Value} {offs : List Nat} {w0 : World} {j : Nat} {w : World} (h : NW Z k r g xs cs offs w0 j w) (i o : Nat) (hj : j = k + i) (ho : offs[i]? = some o) (hol : o < cs.length) (hrg : r ≠ g) (hZg : ¬ Z g) :
    (∃ u, w.cell? ⟨g, o, none⟩ = some u) ∧ w.frozen? ⟨g, o, none⟩ = false ∧ NW Z k r g xs cs offs w0 (j + 1) (w.setCell ⟨g, o, none⟩ (.int .i64 (seqV xs i : Int))) := by
  obtain ⟨h1, t, h2, h3, h4⟩ := h
  subst hj
  have hil : i < offs.length := (List.getElem?_eq_some_iff.1 ho).1
  rw [Nat.min_eq_right (by omega)] at h2
  rw [show k + i - k = i by omega] at h4
  have hl : o < (setsN xs 0 (offs.take i) cs).length := by rw [setsN_len]; exact hol
  have hs : Kp (fun b => b = g) w (w.setCell ⟨g, o, none⟩ (.int .i64 (seqV xs i : Int))) := (by show Kp _ _ _; exact (Kp.refl (fun b => b = g) w).setCell (fun _ => rfl) _)
  refine ⟨⟨_, h4.cell (List.getElem?_eq_getElem hl)⟩, h4.fz hl, h1.trans hs (fun b _ e => Or.inr e), t, ?_, h3.keep hs hrg (fun b hb e => hZg (e ▸ hb)), ?_⟩
  · rw [Nat.min_eq_right (by omega)]
    exact h2
  · rw [show k + i + 1 - k = i + 1 by omega, List.take_add_one, ho]
    show Lv _ _ (setsN xs 0 (offs.take i ++ [o]) cs)
    rw [setsN_snoc, List.length_take, Nat.zero_add, Nat.min_eq_left (by omega)]
    exact h4.set1' o _ hl
end Go.Proofs.YtippipeebkkghaaGreatDoor
