/- What a record's sector, and a head, say when they are read (plain). -/
import Derived.Test.YtippipeebkkghaaGreatDoorBb
import Derived.Test.YtippipeebkkghaaGreatDoorPl5
namespace Go.Proofs.YtippipeebkkghaaGreatDoor
set_option linter.unusedVariables false
set_option linter.unusedSimpArgs false
open Go.RowKit Go.Deep

theorem getD_app1 {l m : List Nat} {j : Nat} (h : j < l.length) : (l ++ m).getD j 0 = l.getD j 0 := by
  rw [List.getD_eq_getElem?_getD, List.getD_eq_getElem?_getD, List.getElem?_append_left h]
theorem getD_app2 {l m : List Nat} {j : Nat} (h : l.length ≤ j) : (l ++ m).getD j 0 = m.getD (j - l.length) 0 := by
  rw [List.getD_eq_getElem?_getD, List.getD_eq_getElem?_getD, List.getElem?_append_right h]
theorem nouW_len (n : Nat) : (nouW n).length = n := by unfold nouW; exact List.length_replicate
theorem nouW_get (n j : Nat) : (nouW n).getD j 0 = 0 := by
  unfold nouW
  rw [List.getD_eq_getElem?_getD, List.getElem?_replicate]
  split <;> rfl
theorem sealB_len {xs : List Nat} (h : xs.length = 64) : (sealB xs).length = 64 := by
  unfold sealB
  simp [big_length, h]
theorem sealB_get {xs : List Nat} (h : xs.length = 64) {j : Nat} (hj : j < 59) : (sealB xs).getD j 0 = xs.getD j 0 := by
  unfold sealB
  rw [List.append_assoc, getD_app1 (by rw [List.length_take, h]; omega), getD_take0 _ _ _ hj]
theorem sealB_last {xs : List Nat} (h : xs.length = 64) : (sealB xs).getD 63 0 = 167 := by
  unfold sealB
  rw [getD_app2 (by rw [List.length_append, List.length_take, big_length, h]; decide)]
  rw [List.length_append, List.length_take, big_length, h]
  rfl
theorem pcP_len {u : Nat} {ys : List Nat} {f l : Bool} (h : ys.length ≤ 40) : (pcP u ys f l).length = 64 := by
  have h1 : (spl ((nouW 64).set 0 114) 1 (big u 8)).length = 64 := by rw [spl_len (by rw [List.length_set, nouW_len, big_length]; omega), List.length_set, nouW_len]
  unfold pcP
  rw [spl_len (by rw [List.length_set, List.length_set, List.length_set, h1]; omega), List.length_set, List.length_set, List.length_set, h1]
theorem pcP_get {u : Nat} {ys : List Nat} {f l : Bool} (h : ys.length ≤ 40) (j : Nat) : (pcP u ys f l).getD j 0 = if 12 ≤ j ∧ j < 12 + ys.length then ys.getD (j - 12) 0 else if j = 11 then l.toNat else if j = 10 then f.toNat else if j = 9 then ys.length else if 1 ≤ j ∧ j < 1 + 8 then (big u 8).getD (j - 1) 0 else if j = 0 then 114 else 0 := by
  have h1 : (spl ((nouW 64).set 0 114) 1 (big u 8)).length = 64 := by rw [spl_len (by rw [List.length_set, nouW_len, big_length]; omega), List.length_set, nouW_len]
  unfold pcP
  rw [spl_get (by rw [List.length_set, List.length_set, List.length_set, h1]; omega)]
  rw [getD_set0 _ _ _ _ (by rw [List.length_set, List.length_set, h1]; omega), getD_set0 _ _ _ _ (by rw [List.length_set, h1]; omega), getD_set0 _ _ _ _ (by rw [h1]; omega)]
  rw [spl_get (by rw [List.length_set, nouW_len, big_length]; omega), getD_set0 _ _ _ _ (by rw [nouW_len]; omega), nouW_get, big_length]
theorem mid_eq {xs ys : List Nat} {o : Nat} (h : o + ys.length ≤ xs.length) (hg : ∀ j, j < ys.length → xs.getD (o + j) 0 = ys.getD j 0) : (xs.drop o).take ys.length = ys := by
  refine list_ext0 (by rw [List.length_take, List.length_drop]; omega) fun j hj => ?_
  rw [List.length_take, List.length_drop] at hj
  rw [getD_take0 _ _ _ (by omega), ← hg j (by omega), List.getD_eq_getElem?_getD, List.getD_eq_getElem?_getD, List.getElem?_drop]
theorem numAt_eq {xs : List Nat} {o u : Nat} (hu : u < 9223372036854775808) (h : o + 8 ≤ xs.length) (hg : ∀ j, j < 8 → xs.getD (o + j) 0 = (big u 8).getD j 0) : numAt xs o = (u : Int) := by
  have h1 := mid_eq (ys := big u 8) (by rw [big_length]; exact h) (fun j hj => hg j (by rw [big_length] at hj; exact hj))
  rw [big_length] at h1
  unfold numAt
  rw [h1, hfW_big 8 u (Nat.lt_trans hu (by decide))]
  unfold i64Of
  rw [if_pos hu]
theorem pcB_say {u : Nat} {ys : List Nat} {f l : Bool} (hu : u < 9223372036854775808) (h : ys.length ≤ 40) : numAt (pcB u ys f l) 1 = (u : Int) ∧ bytP (pcB u ys f l) = ys ∧ fstP (pcB u ys f l) = f ∧ lstP (pcB u ys f l) = l := by
  have hl := pcP_len (u := u) (f := f) (l := l) h
  have hsl := sealB_len hl
  have hg : ∀ j, j < 59 → (pcB u ys f l).getD j 0 = (pcP u ys f l).getD j 0 := fun j hj => sealB_get hl hj
  have h9 : (pcB u ys f l).getD 9 0 = ys.length := by
    rw [hg 9 (by decide), pcP_get h, if_neg (by omega), if_neg (by omega), if_neg (by omega), if_pos rfl]
  have hc : cntP (pcB u ys f l) = ys.length := by unfold cntP; rw [h9]; omega
  refine ⟨numAt_eq hu (by show 1 + 8 ≤ (sealB _).length; omega) fun j hj => ?_, ?_, ?_, ?_⟩
  · rw [hg _ (by omega), pcP_get h, if_neg (by omega), if_neg (by omega), if_neg (by omega), if_neg (by omega), if_pos (by omega)]
    rw [show 1 + j - 1 = j by omega]
  · unfold bytP
    rw [hc]
    refine mid_eq (by show 12 + ys.length ≤ (sealB _).length; omega) fun j hj => ?_
    rw [hg _ (by omega), pcP_get h, if_pos (by omega)]
    rw [show 12 + j - 12 = j by omega]
  · unfold fstP
    rw [hg 10 (by decide), pcP_get h, if_neg (by omega), if_neg (by omega), if_pos rfl]
    cases f <;> rfl
  · unfold lstP
    rw [hg 11 (by decide), pcP_get h, if_neg (by omega), if_pos rfl]
    cases l <;> rfl
theorem u64Of_nat {u : Nat} (hu : u < 9223372036854775808) : u64Of (u : Int) = u := by
  unfold u64Of
  omega
/-- a sector that is written is the right one for its own place alone -/
theorem okR_pcB {u : Nat} {ys : List Nat} {f l : Bool} (hu : u < 9223372036854775808) (h : 1 ≤ ys.length ∧ ys.length ≤ 40) (hl : l = true ∨ ys.length = 40) (i : Nat) (hf : f = decide (i = 0)) : okR (pcB u ys f l) (u : Int) i = true := by
  obtain ⟨e1, e2, e3, e4⟩ := pcB_say (f := f) (l := l) hu h.2
  unfold okR rightP
  rw [e1, e2, e3, e4, u64Of_nat hu, decide_eq_true h.1, decide_eq_true rfl, decide_eq_true rfl, decide_eq_true hf]
  rcases hl with hl | hl
  · rw [hl]; rfl
  · rw [decide_eq_true hl, Bool.or_true]; rfl
/-- what is never a record's sector -/
def Bad (b : List Nat) : Prop := ∀ num i, okR b num i = false
theorem Bad.of_last {b : List Nat} (h : b.getD 63 0 ≠ 167) : Bad b := fun num i => by
  cases ho : okR b num i with
  | false => rfl
  | true =>
    obtain ⟨_, _, h3⟩ := okR_len ho
    unfold okR rightP at ho
    simp only [Bool.and_eq_true, decide_eq_true_eq] at ho
    exact absurd (by rw [ho.1.2.2]; exact sealB_last (pcP_len h3)) h
theorem bad_nou : Bad (nouW 64) := Bad.of_last (by rw [nouW_get]; decide)
theorem bad_torn {xs : List Nat} {c : Nat} (hc : c ≤ 63) (hx : xs.length = 64) : Bad (xs.take c ++ (nouW 64).drop c) := Bad.of_last (by
  rw [getD_app2 (by rw [List.length_take]; omega)]
  unfold nouW
  rw [List.drop_replicate]
  rw [List.getD_eq_getElem?_getD, List.getElem?_replicate]
  split <;> decide)

theorem hdP_len (a b c d : Nat) : (hdP a b c d).length = 64 := by
  unfold hdP
  have h1 : (spl ((nouW 64).set 0 104) 1 (big a 8)).length = 64 := by rw [spl_len (by rw [List.length_set, nouW_len, big_length]; omega), List.length_set, nouW_len]
  have h2 : (spl (spl ((nouW 64).set 0 104) 1 (big a 8)) 9 (big b 8)).length = 64 := by rw [spl_len (by rw [h1, big_length]; omega), h1]
  have h3 : (spl (spl (spl ((nouW 64).set 0 104) 1 (big a 8)) 9 (big b 8)) 17 (big c 8)).length = 64 := by rw [spl_len (by rw [h2, big_length]; omega), h2]
  rw [spl_len (by rw [h3, big_length]; omega), h3]
theorem hdP_get (a b c d j : Nat) : (hdP a b c d).getD j 0 = if 25 ≤ j ∧ j < 25 + 8 then (big d 8).getD (j - 25) 0 else if 17 ≤ j ∧ j < 17 + 8 then (big c 8).getD (j - 17) 0 else if 9 ≤ j ∧ j < 9 + 8 then (big b 8).getD (j - 9) 0 else if 1 ≤ j ∧ j < 1 + 8 then (big a 8).getD (j - 1) 0 else if j = 0 then 104 else 0 := by
  unfold hdP
  have h1 : (spl ((nouW 64).set 0 104) 1 (big a 8)).length = 64 := by rw [spl_len (by rw [List.length_set, nouW_len, big_length]; omega), List.length_set, nouW_len]
  have h2 : (spl (spl ((nouW 64).set 0 104) 1 (big a 8)) 9 (big b 8)).length = 64 := by rw [spl_len (by rw [h1, big_length]; omega), h1]
  have h3 : (spl (spl (spl ((nouW 64).set 0 104) 1 (big a 8)) 9 (big b 8)) 17 (big c 8)).length = 64 := by rw [spl_len (by rw [h2, big_length]; omega), h2]
  rw [spl_get (by rw [h3, big_length]; omega), spl_get (by rw [h2, big_length]; omega), spl_get (by rw [h1, big_length]; omega), spl_get (by rw [List.length_set, nouW_len, big_length]; omega), getD_set0 _ _ _ _ (by rw [nouW_len]; omega), nouW_get, big_length, big_length, big_length, big_length]
theorem sayH_hdB {a b c d : Nat} (ha : a < 9223372036854775808) (hb : b < 9223372036854775808) (hc : c < 9223372036854775808) (hd : d < 9223372036854775808) : sayH (hdB a b c d) = ⟨a, b, c, d⟩ := by
  have hl := hdP_len a b c d
  have hsl := sealB_len hl
  have hg : ∀ j, j < 59 → (hdB a b c d).getD j 0 = (hdP a b c d).getD j 0 := fun j hj => sealB_get hl hj
  have e1 : numAt (hdB a b c d) 1 = (a : Int) := numAt_eq ha (by show 1 + 8 ≤ (sealB _).length; omega) fun j hj => by
    rw [hg _ (by omega), hdP_get, if_neg (by omega), if_neg (by omega), if_neg (by omega), if_pos (by omega), show 1 + j - 1 = j by omega]
  have e2 : numAt (hdB a b c d) 9 = (b : Int) := numAt_eq hb (by show 9 + 8 ≤ (sealB _).length; omega) fun j hj => by
    rw [hg _ (by omega), hdP_get, if_neg (by omega), if_neg (by omega), if_pos (by omega), show 9 + j - 9 = j by omega]
  have e3 : numAt (hdB a b c d) 17 = (c : Int) := numAt_eq hc (by show 17 + 8 ≤ (sealB _).length; omega) fun j hj => by
    rw [hg _ (by omega), hdP_get, if_neg (by omega), if_pos (by omega), show 17 + j - 17 = j by omega]
  have e4 : numAt (hdB a b c d) 25 = (d : Int) := numAt_eq hd (by show 25 + 8 ≤ (sealB _).length; omega) fun j hj => by
    rw [hg _ (by omega), hdP_get, if_pos (by omega), show 25 + j - 25 = j by omega]
  unfold sayH
  rw [e1, e2, e3, e4]
theorem cntB_nat {a : Nat} (h : 1 ≤ a ∧ a ≤ 1152921504606846976) : cntB (a : Int) = true := by
  unfold cntB
  rw [decide_eq_true (by omega), decide_eq_true (by omega)]
  rfl
theorem okH_hdB {a b c d i s : Nat} (ha : 1 ≤ a ∧ a ≤ 1152921504606846976) (hb : 1 ≤ b ∧ b ≤ 1152921504606846976) (hc : c < s) (hs : s ≤ 8192) (hd : 1 ≤ d ∧ d ≤ 1152921504606846976) (hi : a % 2 = i) : okH (hdB a b c d) i s = true := by
  unfold okH
  rw [sayH_hdB (by omega) (by omega) (by omega) (by omega)]
  unfold rightH
  rw [cntB_nat ha, cntB_nat hb, cntB_nat hd, decide_eq_true (show (0 : Int) ≤ (c : Int) by omega), decide_eq_true (show (c : Int) < (s : Int) by omega)]
  rw [decide_eq_true (by simp)]
  have : ((a : Int).tmod 2 == (i : Int)) = true := by
    rw [beq_iff_eq, Int.tmod_eq_emod_of_nonneg (by omega)]
    omega
  rw [this]
  rfl
theorem okH_nou (i : Nat) (s : Int) : okH (nouW 64) i s = false := by
  unfold okH sayH rightH
  rw [numAt_nou, numAt_nou, numAt_nou, numAt_nou]
  rfl
/-- the head that counts: sector i has it, and the other sector has none that is newer -/
theorem newH_of {dur : List Nat} {T : Nat → Option (List Nat)} {s a b c d : Nat} (ha : 1 ≤ a ∧ a ≤ 1152921504606846976) (hb : 1 ≤ b ∧ b ≤ 1152921504606846976) (hc : c < s) (hs : s ≤ 8192) (hd : 1 ≤ d ∧ d ≤ 1152921504606846976) (h1 : nowOf dur T (a % 2) = hdB a b c d) (h2 : ∀ i, i < 2 → i ≠ a % 2 → okH (nowOf dur T i) i s = true → (sayH (nowOf dur T i)).a < (a : Int)) : newH dur T s 2 = ⟨a, b, c, d⟩ := by
  have hsay : sayH (nowOf dur T (a % 2)) = ⟨a, b, c, d⟩ := by rw [h1]; exact sayH_hdB (by omega) (by omega) (by omega) (by omega)
  have hme : ∀ A : H4, A.a < (a : Int) → stepH dur T s A (a % 2) = ⟨a, b, c, d⟩ := fun A hA => by
    unfold stepH
    rw [hsay, h1, okH_hdB ha hb hc hs hd rfl]
    rw [decide_eq_true hA]
    rfl
  have hoth : ∀ (A : H4) i, i < 2 → i ≠ a % 2 → (stepH dur T s A i = A ∨ (stepH dur T s A i).a < (a : Int)) := fun A i hi hne => by
    unfold stepH
    by_cases h : (okH (nowOf dur T i) i s && decide (A.a < (sayH (nowOf dur T i)).a)) = true
    · rw [if_pos h]
      rw [Bool.and_eq_true] at h
      exact Or.inr (h2 i hi hne h.1)
    · rw [if_neg h]
      exact Or.inl rfl
  have hkeep : ∀ i, i < 2 → i ≠ a % 2 → stepH dur T s ⟨a, b, c, d⟩ i = ⟨a, b, c, d⟩ := fun i hi hne => by
    unfold stepH
    rw [if_neg]
    intro h
    rw [Bool.and_eq_true, decide_eq_true_eq] at h
    have := h2 i hi hne h.1
    have h9 : (a : Int) < (sayH (nowOf dur T i)).a := h.2
    omega
  show stepH dur T s (stepH dur T s ⟨0, 0, 0, 0⟩ 0) 1 = _
  rcases Nat.mod_two_eq_zero_or_one a with e | e
  · have h0 : stepH dur T s ⟨0, 0, 0, 0⟩ 0 = ⟨a, b, c, d⟩ := by
      have := hme ⟨0, 0, 0, 0⟩ (show (0 : Int) < (a : Int) by omega)
      rw [e] at this
      exact this
    rw [h0]
    exact hkeep 1 (by omega) (by omega)
  · have := hme (stepH dur T s ⟨0, 0, 0, 0⟩ 0) (by
      rcases hoth ⟨0, 0, 0, 0⟩ 0 (by omega) (by omega) with h | h
      · rw [h]; show (0 : Int) < (a : Int); omega
      · exact h)
    rw [e] at this
    exact this
theorem nowOf_dur {dur : List Nat} {T : Nat → Option (List Nat)} {n : Nat} (hdl : dur.length = n * 64) (hTl : ∀ i xs, T i = some xs → xs.length = 64) {i : Nat} (hi : i < n) : nowOf (durAll dur T n) (fun _ => none) i = nowOf dur T i := by
  have hl : (durAll dur T n).length = n * 64 := by simp [durAll]
  have hget : ∀ j, j < n * 64 → (durAll dur T n)[j]? = some (Sf dur T (fun _ => false) j) := fun j hj => by unfold durAll; rw [List.getElem?_map, List.getElem?_range hj]; rfl
  have key : ∀ ys : List Nat, ys.length = 64 → (∀ j, j < 64 → ys[j]? = some (Sf dur T (fun _ => false) (i * 64 + j))) → (((durAll dur T n).drop (i * 64)).take 64) = ys := fun ys hy hj => by
    apply List.ext_getElem?
    intro j
    by_cases h64 : j < 64
    · rw [List.getElem?_take_of_lt h64, List.getElem?_drop, hget _ (by omega), hj j h64]
    · rw [List.getElem?_eq_none (by rw [List.length_take]; omega), List.getElem?_eq_none (by omega)]
  unfold nowOf
  show ((durAll dur T n).drop (i * 64)).take 64 = _
  cases hT : T i with
  | none =>
    show _ = (dur.drop (i * 64)).take 64
    refine key _ (by rw [List.length_take, List.length_drop, hdl]; omega) (fun j hj => ?_)
    rw [List.getElem?_take_of_lt hj, List.getElem?_drop]
    unfold Sf
    rw [show (i * 64 + j) / 64 = i from by omega, hT]
    show _ = some (dur.getD (i * 64 + j) 0)
    rw [List.getD_eq_getElem?_getD, List.getElem?_eq_getElem (by rw [hdl]; omega)]; rfl
  | some xs =>
    have hs := hTl i xs hT
    show _ = xs
    refine key _ hs (fun j hj => ?_)
    unfold Sf
    rw [show (i * 64 + j) / 64 = i from by omega, hT, show (i * 64 + j) % 64 = j from by omega]
    simp only [Bool.false_eq_true, if_false]
    rw [List.getD_eq_getElem?_getD, List.getElem?_eq_getElem (by rw [hs]; exact hj)]; rfl
theorem durAll_len (dur : List Nat) (T : Nat → Option (List Nat)) (n : Nat) : (durAll dur T n).length = n * 64 := by simp [durAll]
/-- what a plate has behind a head was written -/
theorem nowOf_wrHead {dur : List Nat} {T : Nat → Option (List Nat)} {n i : Nat} {hd : List Nat} (hdl : dur.length = n * 64) (hTl : ∀ i xs, T i = some xs → xs.length = 64) (hh : hd.length = 64) {j : Nat} (hj : j < n) : nowOf (wrHead dur T n i hd) (fun _ => none) j = if j = i then hd else nowOf dur T j := by
  unfold wrHead
  rw [nowOf_dur (durAll_len _ _ _) (fun k xs hk => by
    split at hk
    · cases hk; exact hh
    · cases hk) hj]
  by_cases hji : j = i
  · rw [if_pos hji]
    show (if j = i then some hd else none).getD _ = hd
    rw [if_pos hji]
    rfl
  · have e1 : nowOf (durAll dur (fun j => if j = i then some (nouW 64) else T j) n) (fun j => if j = i then some hd else none) j = nowOf (durAll dur (fun j => if j = i then some (nouW 64) else T j) n) (fun _ => none) j := by
      show (if j = i then some hd else none).getD _ = (none : Option (List Nat)).getD _
      rw [if_neg hji]
    rw [e1, nowOf_dur hdl (fun k xs hk => by
      split at hk
      · cases hk; exact nouW_len 64
      · exact hTl k xs hk) hj, if_neg hji]
    show (if j = i then some (nouW 64) else T j).getD _ = (T j).getD _
    rw [if_neg hji]
theorem hdB_len (a b c d : Nat) : (hdB a b c d).length = 64 := sealB_len (hdP_len a b c d)
end Go.Proofs.YtippipeebkkghaaGreatDoor
