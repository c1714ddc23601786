/- The document's reading of a message, plain: it is the program's. -/
import Derived.Test.YtoepemgflbmlcaaDoorOl
import Derived.Test.YtoepemgflbmlcaaDoorOa6
import Derived.Test.YtoepemgflbmlcaaDoorOv
namespace Go.Proofs.YtoepemgflbmlcaaDoor
set_option linter.unusedVariables false
set_option linter.unusedSimpArgs false

abbrev mxn : Nat := 1152921504606846976
def cp0 : Cp := ⟨0, 0, 0, 0, 0, 0, 0, 0, 0, 0, [], []⟩
def trO (st : Option (List Nat)) : Option (List Nat) := (st.bind rdTruth).map (·.2)
def boO (st : Option (List Nat)) : Bool := ((st.bind rdTruth).map (·.1)).getD false
def cxO (st : Option (List Nat)) : Option (List Nat) := (rdX st).map (·.2)
def cpX (st : Option (List Nat)) : Cp := ((rdX st).map (·.1)).getD cp0
def vstO (st : Option (List Nat)) : Nat → Option (List Nat)
  | 0 => st
  | k + 1 => cxO (itO (vstO st k) 2)
def vpO (st : Option (List Nat)) (k : Nat) : Vp := ⟨vlO 1152921504606846976 (itO (vstO st k) 0), vlO 1152921504606846976 (itO (vstO st k) 1), cpX (itO (vstO st k) 2)⟩
def m9 (st : Option (List Nat)) : Option (List Nat) := itO st 9
def m10 (st : Option (List Nat)) : Option (List Nat) := trO (m9 st)
def m11 (st : Option (List Nat)) : Option (List Nat) := cxO (m10 st)
def mnO (st : Option (List Nat)) : Nat := vlO 1000 (m11 st)
def m12 (st : Option (List Nat)) : Option (List Nat) := nxtO 1000 (m11 st)
def m13 (st : Option (List Nat)) : Option (List Nat) := vstO (m12 st) (mnO st)
def mbO (st : Option (List Nat)) : Nat := vlO 2000 (m13 st)
def m14 (st : Option (List Nat)) : Option (List Nat) := nxtO 2000 (m13 st)
def m15 (st : Option (List Nat)) : Option (List Nat) := takeO (mbO st) (m14 st)
/-- the message that the document reads -/
def mpO (st : Option (List Nat)) : Mp := ⟨vlO 1152921504606846976 (itO st 0), vlO 1152921504606846976 (itO st 1), vlO 1152921504606846976 (itO st 2), vlO 1152921504606846976 (itO st 3), vlO 1152921504606846976 (itO st 4), vlO 1152921504606846976 (itO st 5), vlO 1152921504606846976 (itO st 6), vlO 1152921504606846976 (itO st 7), vlO 1152921504606846976 (itO st 8), boO (m9 st), cpX (m10 st), (List.range (mnO st)).map (vpO (m12 st)), tkB (mbO st) (m14 st)⟩
theorem rdX_some {st : Option (List Nat)} {c : Cp} {t : List Nat} (h : rdX st = some (c, t)) : ∃ xs, st = some xs ∧ rdCmd xs = some (c, t) ∧ mayC (csOf c) (intsOf c.nodes) = true := by
  unfold rdX at h
  obtain ⟨⟨c', t'⟩, h1, h2⟩ := Option.bind_eq_some_iff.1 h
  obtain ⟨xs, h3, h4⟩ := Option.bind_eq_some_iff.1 h1
  dsimp only at h2
  split at h2
  · injection h2 with h2
    injection h2 with e1 e2
    subst e1 e2
    exact ⟨xs, h3, h4, by assumption⟩
  · cases h2
theorem rdX_of {xs t : List Nat} {c : Cp} (h : rdCmd xs = some (c, t)) (hm : mayC (csOf c) (intsOf c.nodes) = true) : rdX (some xs) = some (c, t) := by
  unfold rdX
  show (rdCmd xs).bind _ = _
  rw [h]
  show (if _ then _ else _) = _
  rw [if_pos hm]
theorem cxO_some {st : Option (List Nat)} {t : List Nat} (h : cxO st = some t) : ∃ xs, st = some xs ∧ rdCmd xs = some (cpX st, t) := by
  unfold cxO at h
  obtain ⟨⟨c, t'⟩, h1, rfl⟩ := Option.map_eq_some_iff.1 h
  obtain ⟨xs, h2, h3, _⟩ := rdX_some h1
  refine ⟨xs, h2, ?_⟩
  unfold cpX
  rw [h1, h3]
  rfl
theorem trO_some {st : Option (List Nat)} {t : List Nat} (h : trO st = some t) : ∃ xs, st = some xs ∧ rdTruth xs = some (boO st, t) := by
  unfold trO at h
  obtain ⟨⟨b, t'⟩, h1, rfl⟩ := Option.map_eq_some_iff.1 h
  obtain ⟨xs, h2, h3⟩ := Option.bind_eq_some_iff.1 h1
  refine ⟨xs, h2, ?_⟩
  unfold boO
  rw [h1, h3]
  rfl
theorem Byt.tr {st : Option (List Nat)} (h : Byt st) : Byt (trO st) := fun t e => by
  obtain ⟨xs, h1, h2⟩ := trO_some e
  exact (rdTruth_back (h xs h1) h2).2
theorem Byt.cx {st : Option (List Nat)} (h : Byt st) : Byt (cxO st) := fun t e => by
  obtain ⟨xs, h1, h2⟩ := cxO_some e
  exact (rdCmd_back (h xs h1) h2).2.2
theorem Byt.vst {st : Option (List Nat)} (h : Byt st) : ∀ k, Byt (vstO st k)
  | 0 => h
  | k + 1 => ((Byt.vst h k).it 2).cx
theorem vst_votes {xs : List Nat} : ∀ (k : Nat) (t : List Nat), vstO (some xs) k = some t → rdVotes k xs = some ((List.range k).map (vpO (some xs)), t)
  | 0, t, h => by cases h; rfl
  | k + 1, t, h => by
    obtain ⟨t2, e2, h2⟩ := cxO_some (show cxO (itO (vstO (some xs) k) 2) = some t from h)
    obtain ⟨u, e0, h0⟩ := itO_some e2
    have ih := vst_votes k u e0
    have hv : rdVote u = some (vpO (some xs) k, t) := by
      rw [rdVote_yes h0 h2]
      unfold vpO
      rw [e0, vlO_seqV, vlO_seqV]
    rw [rdVotes_snoc k xs u t _ _ ih hv, List.range_succ, List.map_append]
    rfl
theorem m15_some {st : Option (List Nat)} {t : List Nat} (h : m15 st = some t) : ∃ xs, st = some xs ∧ rdMsg xs = some (mpO st, t) := by
  obtain ⟨u14, e14, hn, et, hk⟩ := takeO_some h
  obtain ⟨t5, e13, h6⟩ := nxtO_some (show nxtO 2000 (m13 st) = some u14 from e14)
  have e13' : vstO (m12 st) (mnO st) = some t5 := e13
  have hm12 : ∃ t4, m12 st = some t4 := by
    cases hq : m12 st with
    | some t4 => exact ⟨t4, rfl⟩
    | none =>
      exfalso
      rw [hq] at e13'
      have : ∀ k, vstO none k = none := fun k => by
        induction k with
        | zero => rfl
        | succ k ih =>
          show cxO (itO (vstO none k) 2) = none
          rw [ih, itO_none]
          rfl
      rw [this] at e13'
      cases e13'
  obtain ⟨t4, e12⟩ := hm12
  rw [e12] at e13'
  have h5 := vst_votes _ _ e13'
  obtain ⟨t3, e11, h4⟩ := nxtO_some (show nxtO 1000 (m11 st) = some t4 from e12)
  obtain ⟨t2, e10, h3⟩ := cxO_some (show cxO (m10 st) = some t3 from e11)
  obtain ⟨t1, e9, h2⟩ := trO_some (show trO (m9 st) = some t2 from e10)
  obtain ⟨xs, e0, h1⟩ := itO_some (show itO st 9 = some t1 from e9)
  subst e0
  have hT : rdText 2000 t5 = some (tkB (mbO (some xs)) (m14 (some xs)), t) := by
    unfold rdText
    rw [h6]
    dsimp only
    show (if mbO (some xs) ≤ u14.length then some (u14.take (mbO (some xs)), u14.drop (mbO (some xs))) else none) = _
    rw [if_pos hn, hk, et]
  refine ⟨xs, rfl, ?_⟩
  rw [rdMsg_yes h1 h2 h3 h4 h5 hT]
  unfold mpO
  rw [vlO_seqV, vlO_seqV, vlO_seqV, vlO_seqV, vlO_seqV, vlO_seqV, vlO_seqV, vlO_seqV, vlO_seqV, e12]
theorem seqN_of_nums {k : Nat} {xs l t : List Nat} (h : rdNums 1152921504606846976 k xs = some (l, t)) : seqN xs k = some t := by
  cases hq : seqN xs k with
  | none => rw [nums_seqN k xs hq] at h; cases h
  | some u =>
    rw [seqN_nums k xs u hq] at h
    injection h with h
    injection h with h1 h2
    rw [h2]
theorem vst_shift (xs : List Nat) : ∀ k, vstO (some xs) (k + 1) = vstO (cxO (itO (some xs) 2)) k
  | 0 => rfl
  | k + 1 => by
    show cxO (itO (vstO (some xs) (k + 1)) 2) = cxO (itO (vstO (cxO (itO (some xs) 2)) k) 2)
    rw [vst_shift xs k]
theorem votes_vst : ∀ (k : Nat) (xs : List Nat) (l : List Vp) (t : List Nat), rdVotes k xs = some (l, t) → (∀ v ∈ l, mayC (csOf v.c) (intsOf v.c.nodes) = true) → vstO (some xs) k = some t
  | 0, xs, l, t, h, _ => by
    injection h with h
    injection h with h1 h2
    subst h1 h2
    rfl
  | k + 1, xs, l, t, h, hm => by
    unfold rdVotes at h
    obtain ⟨⟨x, t1⟩, h3, h⟩ := Option.bind_eq_some_iff.1 h
    obtain ⟨⟨m, t2⟩, h4, h⟩ := Option.bind_eq_some_iff.1 h
    dsimp only at h4 h
    injection h with h
    injection h with e1 e2
    subst e1 e2
    rw [vst_shift]
    unfold rdVote at h3
    obtain ⟨⟨l1, u1⟩, h5, h3⟩ := Option.bind_eq_some_iff.1 h3
    obtain ⟨⟨c2, u2⟩, h6, h3⟩ := Option.bind_eq_some_iff.1 h3
    dsimp only at h6 h3
    injection h3 with h3
    injection h3 with e1 e2
    subst e1 e2
    have hx := hm _ (List.mem_cons_self ..)
    dsimp only at hx
    have hc : cxO (itO (some xs) 2) = some u2 := by
      rw [itO_seqN, seqN_of_nums h5]
      unfold cxO
      rw [rdX_of h6 hx]
      rfl
    rw [hc]
    exact votes_vst k u2 m t2 h4 (fun v hv => hm v (List.mem_cons_of_mem _ hv))
theorem okM_m15 {xs : List Nat} {m : Mp} (h : okM xs = some m) : m15 (some xs) = some [] := by
  unfold okM at h
  obtain ⟨⟨m', t⟩, h0, h⟩ := Option.bind_eq_some_iff.1 h
  dsimp only at h
  by_cases hc : t = [] ∧ mayM (msOf m') = true
  case neg => rw [if_neg hc] at h; cases h
  obtain ⟨ht, hmay⟩ := hc
  subst ht
  have hF := mayM_full hmay
  unfold rdMsg at h0
  obtain ⟨⟨l1, t1⟩, h1, h0⟩ := Option.bind_eq_some_iff.1 h0
  obtain ⟨⟨b2, t2⟩, h2, h0⟩ := Option.bind_eq_some_iff.1 h0
  obtain ⟨⟨c3, t3⟩, h3, h0⟩ := Option.bind_eq_some_iff.1 h0
  obtain ⟨⟨n4, t4⟩, h4, h0⟩ := Option.bind_eq_some_iff.1 h0
  obtain ⟨⟨v5, t5⟩, h5, h0⟩ := Option.bind_eq_some_iff.1 h0
  obtain ⟨⟨y6, t6⟩, h6, h0⟩ := Option.bind_eq_some_iff.1 h0
  dsimp only at h1 h2 h3 h4 h5 h6 h0
  injection h0 with h0
  injection h0 with e1 e2
  subst e1 e2
  have hC : mayC (csOf c3) (intsOf c3.nodes) = true := hF.c
  have hV : ∀ v ∈ v5, mayC (csOf v.c) (intsOf v.c.nodes) = true := fun v hv => (mayVo_parts (hF.v (voOf v) (List.mem_map.2 ⟨v, hv, rfl⟩))).2.2
  have e9 : m9 (some xs) = some t1 := by unfold m9; rw [itO_seqN]; exact seqN_of_nums h1
  have e10 : m10 (some xs) = some t2 := by
    unfold m10 trO
    rw [e9]
    show (rdTruth t1).map _ = _
    rw [h2]
    rfl
  have e11 : m11 (some xs) = some t3 := by
    unfold m11 cxO
    rw [e10, rdX_of h3 hC]
    rfl
  have e12 : m12 (some xs) = some t4 ∧ mnO (some xs) = n4 := by
    unfold m12 mnO
    rw [e11]
    exact nxtO_of h4
  have e13 : m13 (some xs) = some t5 := by
    unfold m13
    rw [e12.1, e12.2]
    exact votes_vst n4 t4 v5 t5 h5 hV
  unfold rdText at h6
  cases h61 : rdNum 2000 t5 with
  | none => rw [h61] at h6; cases h6
  | some p =>
    obtain ⟨k, u⟩ := p
    rw [h61] at h6
    dsimp only at h6
    by_cases hl : k ≤ u.length
    · rw [if_pos hl] at h6
      injection h6 with h6
      injection h6 with e7 e8
      unfold m15 mbO m14
      rw [e13, (nxtO_of h61).1, (nxtO_of h61).2]
      unfold takeO
      show (if k ≤ u.length then some (u.drop k) else none) = _
      rw [if_pos hl, e8]
    · rw [if_neg hl] at h6
      cases h6
/-- what the document's last word comes to -/
theorem okM_bad {xs : List Nat} (h : m15 (some xs) ≠ some []) : okM xs = none := by
  cases hq : okM xs with
  | none => rfl
  | some m => exact absurd (okM_m15 hq) h
theorem okM_good {xs : List Nat} (h : m15 (some xs) = some []) : okM xs = if mayM (msOf (mpO (some xs))) = true then some (mpO (some xs)) else none := by
  obtain ⟨ys, e, h2⟩ := m15_some h
  injection e with e
  subst e
  unfold okM
  rw [h2]
  show (if _ then _ else _) = _
  by_cases hm : mayM (msOf (mpO (some xs))) = true
  · rw [if_pos ⟨rfl, hm⟩, if_pos hm]
  · rw [if_neg (fun h => hm h.2), if_neg hm]
end Go.Proofs.YtoepemgflbmlcaaDoor
