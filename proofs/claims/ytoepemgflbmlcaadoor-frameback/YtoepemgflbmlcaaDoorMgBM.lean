/- Texts of this proof, joined: Oa8, Oa9. -/
import Derived.Test.YtoepemgflbmlcaaDoorMgBD
import Derived.Test.YtoepemgflbmlcaaDoorMgBL
import Derived.Test.YtoepemgflbmlcaaDoorMgAZ
import Derived.Test.YtoepemgflbmlcaaDoorMgBG
import Derived.Test.YtoepemgflbmlcaaDoorMgBK
import Derived.Deep.DeepCutAuto
/- The document's reading of a message, plain: it is the program's. -/
namespace Go.Proofs.YtoepemgflbmlcaaDoor
set_option linter.unusedVariables false
set_option linter.unusedSimpArgs false

abbrev mxn : Nat := 1152921504606846976
def cp0 : Cp := ⟨0, 0, 0, 0, 0, 0, 0, 0, 0, 0, [], []⟩
def trO (st : Option (List Nat)) : Option (List Nat) := (st.bind rdTruth).map (·.2)
def boO (st : Option (List Nat)) : Bool := ((st.bind rdTruth).map (·.1)).getD false
def cxO (st : Option (List Nat)) : Option (List Nat) := (rdX st).map (·.2)
def cpX (st : Option (List Nat)) : Cp := ((rdX st).map (·.1)).getD cp0
def vstO (st : Option (List Nat)) : Nat → Option (List Nat)
  | 0 => st
  | k + 1 => cxO (itO (vstO st k) 2)
def vpO (st : Option (List Nat)) (k : Nat) : Vp := ⟨vlO 1152921504606846976 (itO (vstO st k) 0), vlO 1152921504606846976 (itO (vstO st k) 1), cpX (itO (vstO st k) 2)⟩
def m9 (st : Option (List Nat)) : Option (List Nat) := itO st 9
def m10 (st : Option (List Nat)) : Option (List Nat) := trO (m9 st)
def m11 (st : Option (List Nat)) : Option (List Nat) := cxO (m10 st)
def mnO (st : Option (List Nat)) : Nat := vlO 1000 (m11 st)
def m12 (st : Option (List Nat)) : Option (List Nat) := nxtO 1000 (m11 st)
def m13 (st : Option (List Nat)) : Option (List Nat) := vstO (m12 st) (mnO st)
def mbO (st : Option (List Nat)) : Nat := vlO 2000 (m13 st)
def m14 (st : Option (List Nat)) : Option (List Nat) := nxtO 2000 (m13 st)
def m15 (st : Option (List Nat)) : Option (List Nat) := takeO (mbO st) (m14 st)
/-- the message that the document reads -/
def mpO (st : Option (List Nat)) : Mp := ⟨vlO 1152921504606846976 (itO st 0), vlO 1152921504606846976 (itO st 1), vlO 1152921504606846976 (itO st 2), vlO 1152921504606846976 (itO st 3), vlO 1152921504606846976 (itO st 4), vlO 1152921504606846976 (itO st 5), vlO 1152921504606846976 (itO st 6), vlO 1152921504606846976 (itO st 7), vlO 1152921504606846976 (itO st 8), boO (m9 st), cpX (m10 st), (List.range (mnO st)).map (vpO (m12 st)), tkB (mbO st) (m14 st)⟩
theorem rdX_some {st : Option (List Nat)} {c : Cp} {t : List Nat} (h : rdX st = some (c, t)) : ∃ xs, st = some xs ∧ rdCmd xs = some (c, t) ∧ mayC (csOf c) (intsOf c.nodes) = true := by
  unfold rdX at h
  obtain ⟨⟨c', t'⟩, h1, h2⟩ := Option.bind_eq_some_iff.1 h
  obtain ⟨xs, h3, h4⟩ := Option.bind_eq_some_iff.1 h1
  dsimp only at h2
  split at h2
  · injection h2 with h2
    injection h2 with e1 e2
    subst e1 e2
    exact ⟨xs, h3, h4, by assumption⟩
  · cases h2
theorem rdX_of {xs t : List Nat} {c : Cp} (h : rdCmd xs = some (c, t)) (hm : mayC (csOf c) (intsOf c.nodes) = true) : rdX (some xs) = some (c, t) := by
  unfold rdX
  show (rdCmd xs).bind _ = _
  rw [h]
  show (if _ then _ else _) = _
  rw [if_pos hm]
theorem cxO_some {st : Option (List Nat)} {t : List Nat} (h : cxO st = some t) : ∃ xs, st = some xs ∧ rdCmd xs = some (cpX st, t) := by
  unfold cxO at h
  obtain ⟨⟨c, t'⟩, h1, rfl⟩ := Option.map_eq_some_iff.1 h
  obtain ⟨xs, h2, h3, _⟩ := rdX_some h1
  refine ⟨xs, h2, ?_⟩
  unfold cpX
  rw [h1, h3]
  rfl
theorem trO_some {st : Option (List Nat)} {t : List Nat} (h : trO st = some t) : ∃ xs, st = some xs ∧ rdTruth xs = some (boO st, t) := by
  unfold trO at h
  obtain ⟨⟨b, t'⟩, h1, rfl⟩ := Option.map_eq_some_iff.1 h
  obtain ⟨xs, h2, h3⟩ := Option.bind_eq_some_iff.1 h1
  refine ⟨xs, h2, ?_⟩
  unfold boO
  rw [h1, h3]
  rfl
theorem Byt.tr {st : Option (List Nat)} (h : Byt st) : Byt (trO st) := fun t e => by
  obtain ⟨xs, h1, h2⟩ := trO_some e
  exact (rdTruth_back (h xs h1) h2).2
theorem Byt.cx {st : Option (List Nat)} (h : Byt st) : Byt (cxO st) := fun t e => by
  obtain ⟨xs, h1, h2⟩ := cxO_some e
  exact (rdCmd_back (h xs h1) h2).2.2
theorem Byt.vst {st : Option (List Nat)} (h : Byt st) : ∀ k, Byt (vstO st k)
  | 0 => h
  | k + 1 => ((Byt.vst h k).it 2).cx
theorem vst_votes {xs : List Nat} : ∀ (k : Nat) (t : List Nat), vstO (some xs) k = some t → rdVotes k xs = some ((List.range k).map (vpO (some xs)), t)
  | 0, t, h => by cases h; rfl
  | k + 1, t, h => by
    obtain ⟨t2, e2, h2⟩ := cxO_some (show cxO (itO (vstO (some xs) k) 2) = some t from h)
    obtain ⟨u, e0, h0⟩ := itO_some e2
    have ih := vst_votes k u e0
    have hv : rdVote u = some (vpO (some xs) k, t) := by
      rw [rdVote_yes h0 h2]
      unfold vpO
      rw [e0, vlO_seqV, vlO_seqV]
    rw [rdVotes_snoc k xs u t _ _ ih hv, List.range_succ, List.map_append]
    rfl
theorem m15_some {st : Option (List Nat)} {t : List Nat} (h : m15 st = some t) : ∃ xs, st = some xs ∧ rdMsg xs = some (mpO st, t) := by
  obtain ⟨u14, e14, hn, et, hk⟩ := takeO_some h
  obtain ⟨t5, e13, h6⟩ := nxtO_some (show nxtO 2000 (m13 st) = some u14 from e14)
  have e13' : vstO (m12 st) (mnO st) = some t5 := e13
  have hm12 : ∃ t4, m12 st = some t4 := by
    cases hq : m12 st with
    | some t4 => exact ⟨t4, rfl⟩
    | none =>
      exfalso
      rw [hq] at e13'
      have : ∀ k, vstO none k = none := fun k => by
        induction k with
        | zero => rfl
        | succ k ih =>
          show cxO (itO (vstO none k) 2) = none
          rw [ih, itO_none]
          rfl
      rw [this] at e13'
      cases e13'
  obtain ⟨t4, e12⟩ := hm12
  rw [e12] at e13'
  have h5 := vst_votes _ _ e13'
  obtain ⟨t3, e11, h4⟩ := nxtO_some (show nxtO 1000 (m11 st) = some t4 from e12)
  obtain ⟨t2, e10, h3⟩ := cxO_some (show cxO (m10 st) = some t3 from e11)
  obtain ⟨t1, e9, h2⟩ := trO_some (show trO (m9 st) = some t2 from e10)
  obtain ⟨xs, e0, h1⟩ := itO_some (show itO st 9 = some t1 from e9)
  subst e0
  have hT : rdText 2000 t5 = some (tkB (mbO (some xs)) (m14 (some xs)), t) := by
    unfold rdText
    rw [h6]
    dsimp only
    show (if mbO (some xs) ≤ u14.length then some (u14.take (mbO (some xs)), u14.drop (mbO (some xs))) else none) = _
    rw [if_pos hn, hk, et]
  refine ⟨xs, rfl, ?_⟩
  rw [rdMsg_yes h1 h2 h3 h4 h5 hT]
  unfold mpO
  rw [vlO_seqV, vlO_seqV, vlO_seqV, vlO_seqV, vlO_seqV, vlO_seqV, vlO_seqV, vlO_seqV, vlO_seqV, e12]
theorem seqN_of_nums {k : Nat} {xs l t : List Nat} (h : rdNums 1152921504606846976 k xs = some (l, t)) : seqN xs k = some t := by
  cases hq : seqN xs k with
  | none => rw [nums_seqN k xs hq] at h; cases h
  | some u =>
    rw [seqN_nums k xs u hq] at h
    injection h with h
    injection h with h1 h2
    rw [h2]
theorem vst_shift (xs : List Nat) : ∀ k, vstO (some xs) (k + 1) = vstO (cxO (itO (some xs) 2)) k
  | 0 => rfl
  | k + 1 => by
    show cxO (itO (vstO (some xs) (k + 1)) 2) = cxO (itO (vstO (cxO (itO (some xs) 2)) k) 2)
    rw [vst_shift xs k]
theorem votes_vst : ∀ (k : Nat) (xs : List Nat) (l : List Vp) (t : List Nat), rdVotes k xs = some (l, t) → (∀ v ∈ l, mayC (csOf v.c) (intsOf v.c.nodes) = true) → vstO (some xs) k = some t
  | 0, xs, l, t, h, _ => by
    injection h with h
    injection h with h1 h2
    subst h1 h2
    rfl
  | k + 1, xs, l, t, h, hm => by
    unfold rdVotes at h
    obtain ⟨⟨x, t1⟩, h3, h⟩ := Option.bind_eq_some_iff.1 h
    obtain ⟨⟨m, t2⟩, h4, h⟩ := Option.bind_eq_some_iff.1 h
    dsimp only at h4 h
    injection h with h
    injection h with e1 e2
    subst e1 e2
    rw [vst_shift]
    unfold rdVote at h3
    obtain ⟨⟨l1, u1⟩, h5, h3⟩ := Option.bind_eq_some_iff.1 h3
    obtain ⟨⟨c2, u2⟩, h6, h3⟩ := Option.bind_eq_some_iff.1 h3
    dsimp only at h6 h3
    injection h3 with h3
    injection h3 with e1 e2
    subst e1 e2
    have hx := hm _ (List.mem_cons_self ..)
    dsimp only at hx
    have hc : cxO (itO (some xs) 2) = some u2 := by
      rw [itO_seqN, seqN_of_nums h5]
      unfold cxO
      rw [rdX_of h6 hx]
      rfl
    rw [hc]
    exact votes_vst k u2 m t2 h4 (fun v hv => hm v (List.mem_cons_of_mem _ hv))
theorem okM_m15 {xs : List Nat} {m : Mp} (h : okM xs = some m) : m15 (some xs) = some [] := by
  unfold okM at h
  obtain ⟨⟨m', t⟩, h0, h⟩ := Option.bind_eq_some_iff.1 h
  dsimp only at h
  by_cases hc : t = [] ∧ mayM (msOf m') = true
  case neg => rw [if_neg hc] at h; cases h
  obtain ⟨ht, hmay⟩ := hc
  subst ht
  have hF := mayM_full hmay
  unfold rdMsg at h0
  obtain ⟨⟨l1, t1⟩, h1, h0⟩ := Option.bind_eq_some_iff.1 h0
  obtain ⟨⟨b2, t2⟩, h2, h0⟩ := Option.bind_eq_some_iff.1 h0
  obtain ⟨⟨c3, t3⟩, h3, h0⟩ := Option.bind_eq_some_iff.1 h0
  obtain ⟨⟨n4, t4⟩, h4, h0⟩ := Option.bind_eq_some_iff.1 h0
  obtain ⟨⟨v5, t5⟩, h5, h0⟩ := Option.bind_eq_some_iff.1 h0
  obtain ⟨⟨y6, t6⟩, h6, h0⟩ := Option.bind_eq_some_iff.1 h0
  dsimp only at h1 h2 h3 h4 h5 h6 h0
  injection h0 with h0
  injection h0 with e1 e2
  subst e1 e2
  have hC : mayC (csOf c3) (intsOf c3.nodes) = true := hF.c
  have hV : ∀ v ∈ v5, mayC (csOf v.c) (intsOf v.c.nodes) = true := fun v hv => (mayVo_parts (hF.v (voOf v) (List.mem_map.2 ⟨v, hv, rfl⟩))).2.2
  have e9 : m9 (some xs) = some t1 := by unfold m9; rw [itO_seqN]; exact seqN_of_nums h1
  have e10 : m10 (some xs) = some t2 := by
    unfold m10 trO
    rw [e9]
    show (rdTruth t1).map _ = _
    rw [h2]
    rfl
  have e11 : m11 (some xs) = some t3 := by
    unfold m11 cxO
    rw [e10, rdX_of h3 hC]
    rfl
  have e12 : m12 (some xs) = some t4 ∧ mnO (some xs) = n4 := by
    unfold m12 mnO
    rw [e11]
    exact nxtO_of h4
  have e13 : m13 (some xs) = some t5 := by
    unfold m13
    rw [e12.1, e12.2]
    exact votes_vst n4 t4 v5 t5 h5 hV
  unfold rdText at h6
  cases h61 : rdNum 2000 t5 with
  | none => rw [h61] at h6; cases h6
  | some p =>
    obtain ⟨k, u⟩ := p
    rw [h61] at h6
    dsimp only at h6
    by_cases hl : k ≤ u.length
    · rw [if_pos hl] at h6
      injection h6 with h6
      injection h6 with e7 e8
      unfold m15 mbO m14
      rw [e13, (nxtO_of h61).1, (nxtO_of h61).2]
      unfold takeO
      show (if k ≤ u.length then some (u.drop k) else none) = _
      rw [if_pos hl, e8]
    · rw [if_neg hl] at h6
      cases h6
/-- what the document's last word comes to -/
theorem okM_bad {xs : List Nat} (h : m15 (some xs) ≠ some []) : okM xs = none := by
  cases hq : okM xs with
  | none => rfl
  | some m => exact absurd (okM_m15 hq) h
theorem okM_good {xs : List Nat} (h : m15 (some xs) = some []) : okM xs = if mayM (msOf (mpO (some xs))) = true then some (mpO (some xs)) else none := by
  obtain ⟨ys, e, h2⟩ := m15_some h
  injection e with e
  subst e
  unfold okM
  rw [h2]
  show (if _ then _ else _) = _
  by_cases hm : mayM (msOf (mpO (some xs))) = true
  · rw [if_pos ⟨rfl, hm⟩, if_pos hm]
  · rw [if_neg (fun h => hm h.2), if_neg hm]
end Go.Proofs.YtoepemgflbmlcaaDoor

/- The document's ReadMsg (laid by scripts/mkoa9.py). -/
namespace Go.Proofs.YtoepemgflbmlcaaDoor
set_option linter.unusedVariables false
set_option linter.unusedSimpArgs false
open Go.RowKit Go.Deep

/-- what the document's Reader.cmd answers, in any state -/
theorem XcRes.norm {Z : Nat → Prop} {r : Nat} {st : Option (List Nat)} {w : World} {e : Ending} {w' : World} (h : XcRes Z r st w e w') : ∃ cs0 q n cap, e = .returned (.agg (cmdA cs0 (.slice q n cap))) ∧ Ru Z w' r (cxO st) ∧ ((cxO st).isSome = true → cs0 = csOf (cpX st) ∧ n = (cpX st).nodes.length ∧ Fl w' (fun b => w.heap.size ≤ b ∧ b < w'.heap.size) q ((intsOf (cpX st).nodes).map encI)) := by
  unfold XcRes at h
  unfold cxO cpX
  cases hq : rdX st with
  | none =>
    rw [hq] at h
    obtain ⟨⟨cs0, q, n, cap, he⟩, hr⟩ := h
    exact ⟨cs0, q, n, cap, he, hr, fun e => (by cases e)⟩
  | some p =>
    obtain ⟨c, t⟩ := p
    rw [hq] at h
    obtain ⟨q, cap, he, hf, hr⟩ := h
    exact ⟨csOf c, q, _, cap, he, hr, fun _ => ⟨rfl, rfl, hf⟩⟩
theorem cxO_isSome {st : Option (List Nat)} (h : (cxO st).isSome = true) : st.isSome = true := by
  cases st with
  | none => cases h
  | some x => rfl
theorem trO_isSome {st : Option (List Nat)} (h : (trO st).isSome = true) : st.isSome = true := by
  cases st with
  | none => cases h
  | some x => rfl
theorem takeO_isSome {n : Nat} {st : Option (List Nat)} (h : (takeO n st).isSome = true) : st.isSome = true := by
  cases st with
  | none => cases h
  | some x => rfl
theorem vstO_isSome {st : Option (List Nat)} {i j : Nat} (hij : i ≤ j) (h : (vstO st j).isSome = true) : (vstO st i).isSome = true := by
  obtain ⟨d, rfl⟩ := Nat.le.dest hij
  clear hij
  induction d with
  | zero => exact h
  | succ d ih => exact ih (itO_isSome (st := vstO st (i + d)) (i := 0) (j := 2) (by decide) (cxO_isSome h))
/-- what the loop over the votes keeps -/
structure XI (w wz : World) (g h2 : Nat) (cs : List Value) (v : Value) (l : List (Vo × Value)) (C1 C2 : Prop) (vs : List Vo) (q : Option Addr) (ns : List Int) : Prop where
  ow : OwV wz (w.heap.size + 3) v l
  vn : C1 → l.map (·.1) = vs ∧ Vn wz (fun b => w.heap.size + 3 ≤ b ∧ b < wz.heap.size ∧ v.ownBlock ≠ some b) l
  lg : Lv wz g cs
  lh : Lv wz h2 zeroM.toList
  kp : Kp (fun _ => False) w wz
  fl : C2 → Fl wz (fun b => w.heap.size + 3 ≤ b ∧ b < wz.heap.size ∧ v.ownBlock ≠ some b) q (ns.map encI)
  sz : w.heap.size + 3 ≤ wz.heap.size
theorem XI.step {w wr wx w3 wz : World} {g h2 r : Nat} {cs cs' : List Value} {v v' : Value} {l : List (Vo × Value)} {y : Vo × Value} {C1 C1' C2 : Prop} {vs : List Vo} {q : Option Addr} {ns : List Int} (h : XI w wr g h2 cs v l C1 C2 vs q ns) (hO : h2 = w.heap.size ∧ r = w.heap.size + 1 ∧ g = w.heap.size + 2) (kA : Kp (fun b => b = r) wr wx) (k3 : Kp (fun b => v.ownBlock = some b) wx w3) (ho : OwV w3 (w.heap.size + 3) v' (l ++ [y])) (hbl : v'.ownBlock = v.ownBlock ∨ ∃ j, v'.ownBlock = some j ∧ wx.heap.size ≤ j) (kz : Kp (fun b => b = g) w3 wz) (hl : Lv wz g cs') (h1 : C1' → C1) (vo : Vo)
    (hy : C1' → y.1 = vo ∧ ∃ p cap, y.2 = .slice p y.1.nodes.length cap ∧ Fl wx (fun b => wr.heap.size ≤ b ∧ b < wx.heap.size) p (y.1.nodes.map encI) ∧ y.1.nodes.length * 8 ≤ 140737488355328) : XI w wz g h2 cs' v' (l ++ [y]) C1' C2 (vs ++ [vo]) q ns := by
  have s1 := kA.size
  have s2 := k3.size
  have s3 := kz.size
  have s0 := h.sz
  have kAll : Kp (fun b => b = r ∨ b = g ∨ v.ownBlock = some b) wr wz := ((kA.mono (S' := fun b => b = r ∨ b = g ∨ v.ownBlock = some b) (fun _ _ e => Or.inl e)).trans k3 (fun _ _ e => Or.inr (Or.inr e))).trans kz (fun _ _ e => Or.inr (Or.inl e))
  have hlow : ∀ b, v.ownBlock = some b → w.heap.size + 3 ≤ b ∧ b < wr.heap.size := fun b e => ownBlock_lt h.ow e
  have hsep : ∀ b, b < wr.heap.size → v.ownBlock ≠ some b → v'.ownBlock ≠ some b := fun b hlt hne e => by
    rcases hbl with q | ⟨j, q, hj⟩
    · exact hne (q ▸ e)
    · rw [q] at e; injection e with e; omega
  have hkeep : ∀ b, w.heap.size + 3 ≤ b ∧ b < wr.heap.size ∧ v.ownBlock ≠ some b → ¬ (b = r ∨ b = g ∨ v.ownBlock = some b) := fun b hb e => by
    rcases e with e | e | e
    · omega
    · omega
    · exact hb.2.2 e
  have hmono : ∀ b, w.heap.size + 3 ≤ b ∧ b < wr.heap.size ∧ v.ownBlock ≠ some b → w.heap.size + 3 ≤ b ∧ b < wz.heap.size ∧ v'.ownBlock ≠ some b := fun b hb => ⟨hb.1, by omega, hsep b hb.2.1 hb.2.2⟩
  refine ⟨ownsRow_keep ho kz (fun b hb' e => ?_), fun c => ?_, hl, h.lh.keep kAll (fun e => ?_), h.kp.trans kAll (fun b hb e => ?_), fun c => ((h.fl c).keep kAll hkeep).mono hmono, by omega⟩
  · have := (ownBlock_lt ho hb').1; omega
  · obtain ⟨e1, e2⟩ := h.vn (h1 c)
    obtain ⟨e3, p, cap, e4, e5, e6⟩ := hy c
    refine ⟨by rw [List.map_append, e1]; show _ = vs ++ [vo]; rw [← e3]; rfl, fun z hz => ?_⟩
    rcases List.mem_append.1 hz with hz | hz
    · obtain ⟨pz, cz, ez, fz, nz⟩ := e2 z hz
      exact ⟨pz, cz, ez, (fz.keep kAll hkeep).mono hmono, nz⟩
    · rw [List.mem_singleton] at hz
      subst hz
      have k9 : Kp (fun b => b = g ∨ v.ownBlock = some b) wx wz := (k3.mono (S' := fun b => b = g ∨ v.ownBlock = some b) (fun _ _ e => Or.inr e)).trans kz (fun _ _ e => Or.inl e)
      refine ⟨p, cap, e4, (e5.keep k9 (fun b hb e => ?_)).mono (fun b hb => ⟨by omega, by omega, fun e => ?_⟩), e6⟩
      · rcases e with e | e
        · omega
        · have := hlow b e; omega
      · rcases hbl with q | ⟨j, q, hj⟩
        · have := hlow b (q ▸ e); omega
        · rw [q] at e; injection e with e; omega
  · rcases e with e | e | e
    · omega
    · omega
    · have := hlow _ e; omega
  · rcases e with e | e | e
    · omega
    · omega
    · have := hlow _ e; omega
theorem wpList_app_vg {ops : Array Oper} {rest : List Oper} {op : Oper} {a : Act} {Q : Exit → Act → World → Prop} {B : Nat} {w0 : World} {v : Value} {l : List (Vo × Value)} (h : OwV w0 B v l) (hB : B ≤ w0.heap.size) (y : Vo × Value) (hy : y.2.oneCell' = true) (hz : l.length ≤ 100000)
    (hgd : op.guard = none) (o1 o2 : Operand) (ho : op.op = .call { callee := .builtin .append, args := #[o1, o2], argTypes := #[38, 38] }) (h1 : a.eval o1 = v) (h2 : a.eval o2 = .slice (some ⟨w0.heap.size, 0, none⟩) 1 1)
    (hK : ∀ v' w3, OwV w3 B v' (l ++ [y]) → Kp (fun b => v.ownBlock = some b) w0 w3 → (v'.ownBlock = v.ownBlock ∨ ∃ j, v'.ownBlock = some j ∧ w0.heap.size ≤ j) → wpList Tryd.prog ops Q rest (a.put op.dst v') w3) :
    wpList Tryd.prog ops Q (op :: rest) a (w0.alloc (.cells (vcell y.1 y.2).toArray 72)) := by
  obtain ⟨ti, tz, hi1, hi2, hi3, hi4, hi5⟩ := infoVote
  have ka : Kp (fun _ => False) w0 (w0.alloc (.cells (vcell y.1 y.2).toArray 72)) := (Kp.refl _ _).alloc _
  have hr := ownsRow_keep h ka (fun _ _ e => e)
  have hlv := Lv.new w0 (vcell y.1 y.2).toArray 72
  have h1c : ∀ u ∈ vcell y.1 y.2, u.oneCell' = true := by
    have := vcell_one y.1 (nv := y.2) hy
    intro u hu
    exact (Array.all_eq_true_iff_forall_mem.1 this) u (by simpa using hu)
  have hsz := ka.size
  refine wpList_append_own_src _ hgd o1 o2 38 38 ho B 72 ti tz 14 136 Tryd.underlying38 hi1 hi2 hi3 hi4 hi5 (by decide) v l.length (vflat l) h1 hr _ 1 (vcell y.1 y.2) h2 (Src.ofSlice _ Tryd.underlying38 ⟨w0.heap.size, 0, none⟩ 1 1 (vcell y.1 y.2) rfl (fun j u hj => by rw [Addr.add_mid, Nat.zero_add]; exact hlv.cell hj) h1c) (by unfold maxLen; omega) (by omega) (by omega) ?_
  intro v2 w3 hown hk hblk
  have k3 := grownBy_kp hk
  refine hK v2 w3 ?_ ((ka.mono (S' := fun b => v.ownBlock = some b) (fun _ _ e => e.elim)).trans k3 (fun _ _ e => e)) ?_
  · unfold OwV
    rw [List.length_append, vflat_append]
    have e : vflat [y] = vcell y.1 y.2 := by show vcell _ _ ++ [] = _; rw [List.append_nil]
    rw [e]
    exact hown
  · rcases hblk with e | e
    · exact Or.inl e
    · exact Or.inr ⟨_, e, hsz⟩
theorem cpX_fit {st : Option (List Nat)} (hb : Byt st) (h : (cxO st).isSome = true) : (cpX st).fit := by
  obtain ⟨t, ht⟩ := Option.isSome_iff_exists.1 h
  obtain ⟨xs, e, h2⟩ := cxO_some ht
  exact (rdCmd_back (hb xs e) h2).2.1

theorem tr_cases (s : Option (List Nat)) (hb : Byt s) : (takeO 1 s = none ∧ trO s = none) ∨ ∃ x t, x < 256 ∧ takeO 1 s = some t ∧ tkB 1 s = [x] ∧ (1 < x ∧ trO s = none ∨ x ≤ 1 ∧ trO s = some t ∧ boO s = (x == 1)) := by
  cases s with
  | none => exact Or.inl ⟨rfl, rfl⟩
  | some l =>
    cases l with
    | nil => exact Or.inl ⟨rfl, rfl⟩
    | cons x t =>
      have h1 : 1 ≤ (x :: t).length := by simp
      refine Or.inr ⟨x, t, hb _ rfl x (List.mem_cons_self ..), ?_, ?_, ?_⟩
      · show (if 1 ≤ (x :: t).length then some ((x :: t).drop 1) else none) = _
        rw [if_pos h1]
        rfl
      · show (if 1 ≤ (x :: t).length then some ((x :: t).take 1) else none).getD [] = _
        rw [if_pos h1]
        rfl
      · by_cases hx : x ≤ 1
        · refine Or.inr ⟨hx, ?_, ?_⟩
          · show (if x ≤ 1 then some (x == 1, t) else none).map _ = _
            rw [if_pos hx]
            rfl
          · show ((if x ≤ 1 then some (x == 1, t) else none).map _).getD _ = _
            rw [if_pos hx]
            rfl
        · refine Or.inl ⟨by omega, ?_⟩
          show (if x ≤ 1 then some (x == 1, t) else none).map _ = _
          rw [if_neg hx]
          rfl

set_option maxRecDepth 100000 in
set_option maxHeartbeats 12800000 in
theorem xreadmsg_ok (p : Option Addr) (n cap : Nat) (xs : List Nat) (w : World) (h : Rb w p n xs) (hnc : n ≤ cap) (hcap : (cap : Int) ≤ 9223372036854775807) : Calls Tryd.prog 17 #[.slice p n cap] w fun e w' => MtRes xs w e w' ∧ Kp (fun _ => False) w w' := by
  obtain ⟨h2, hh2⟩ : ∃ x, x = w.heap.size := ⟨_, rfl⟩
  obtain ⟨r, hr⟩ : ∃ x, x = w.heap.size + 1 := ⟨_, rfl⟩
  obtain ⟨g, hg⟩ : ∃ x, x = w.heap.size + 1 + 1 := ⟨_, rfl⟩
  obtain ⟨Z, hZe⟩ : ∃ Z : Nat → Prop, Z = fun b => b < w.heap.size := ⟨_, rfl⟩
  obtain ⟨st, hst⟩ : ∃ st : Option (List Nat), st = some xs := ⟨_, rfl⟩
  have HKa : Hid (∀ u, u = ((w.alloc (.cells zeroM 40)).alloc (.cells #[.slice p n cap, .bool false] 66)).alloc (.cells zeroM 40) → Kp (fun _ => False) w u ∧ Lv u h2 zeroM.toList ∧ Ru Z u r st ∧ Lv u g zeroM.toList ∧ u.heap.size = w.heap.size + 3) := fun u hu => by
    have z1 : (w.alloc (.cells zeroM 40)).heap.size = w.heap.size + 1 := by simp
    have z2 : ((w.alloc (.cells zeroM 40)).alloc (.cells #[.slice p n cap, .bool false] 66)).heap.size = w.heap.size + 1 + 1 := by simp
    have k0 : Kp (fun _ => False) w u := by rw [hu]; exact (((Kp.refl _ _).alloc _).alloc _).alloc _
    have hl : Lv u r [.slice p n cap, .bool false] := by rw [hu, hr, ← z1]; exact (Lv.new _ _ _).keep ((Kp.refl (fun _ => False) _).alloc _) id
    have hlg : Lv u g zeroM.toList := by rw [hu, hg, ← z2]; exact Lv.new _ _ _
    exact ⟨k0, by rw [hu, hh2]; exact (Lv.new w _ _).keep (((Kp.refl (fun _ => False) _).alloc _).alloc _) id, ⟨⟨p, n, cap, hl.cell (j := 0) rfl, hl.fz (show 0 < 2 by omega), hnc, hcap, fun ys e => by rw [hst] at e; cases e; exact ⟨h.keep0 k0, fun a ha hp => by have := h.blk a ha hp; exact ⟨by omega, by rw [hZe]; exact this⟩⟩⟩, by rw [hst]; exact hl.cell (j := 1) rfl, hl.fz (show 1 < 2 by omega)⟩, hlg, by rw [hu]; simp⟩
  have HB : Hid (Byt st) := fun ys e => by rw [hst] at e; cases e; exact h.byte
  have HSt : Hid (st = some xs) := hst
  have HO : Hid (h2 = w.heap.size ∧ r = w.heap.size + 1 ∧ g = w.heap.size + 2) := ⟨hh2, hr, hg⟩
  have HZ : Hid (¬ Z g ∧ ¬ Z h2 ∧ ∀ b, Z b → b < w.heap.size) := by
    rw [hZe]
    exact ⟨fun e => by dsimp only at e; omega, fun e => by dsimp only at e; omega, fun b e => e⟩
  clear h hnc hcap hst hZe
  go_enter Tryd.func17, Tryd.ntmps17
  go_upto_region 3 with fail
  obtain ⟨u, hu⟩ : ∃ x, x = ((w.alloc (.cells zeroM 40)).alloc (.cells #[.slice p n cap, .bool false] 66)).alloc (.cells zeroM 40) := ⟨_, rfl⟩
  obtain ⟨k0, l0, c0, lg0, z0⟩ := HKa.out u hu
  rw [show ((w.alloc (.cells #[.int .i64 0, .int .i64 0, .int .i64 0, .int .i64 0, .int .i64 0, .int .i64 0, .int .i64 0, .int .i64 0, .int .i64 0, .bool false, .int .i64 0, .int .i64 0, .string ⟨#[]⟩, .int .i64 0, .int .i64 0, .int .i64 0, .int .i64 0, .int .i64 0, .int .u32 0, .int .i64 0, .int .i64 0, .slice none 0 0, .slice none 0 0, .slice none 0 0] 40)).alloc (.cells #[.slice p n cap, .bool false] 66)).alloc (.cells #[.int .i64 0, .int .i64 0, .int .i64 0, .int .i64 0, .int .i64 0, .int .i64 0, .int .i64 0, .int .i64 0, .int .i64 0, .bool false, .int .i64 0, .int .i64 0, .string ⟨#[]⟩, .int .i64 0, .int .i64 0, .int .i64 0, .int .i64 0, .int .i64 0, .int .u32 0, .int .i64 0, .int .i64 0, .slice none 0 0, .slice none 0 0, .slice none 0 0] 40) = u from hu.symm, ← hg, ← hr, ← hh2]
  clear hu hr hh2 hg HKa
  have HLh0 : Hid (Lv u h2 zeroM.toList) := l0
  have HL0 : Hid (Lv u g zeroM.toList) := lg0
  have HR0 : Hid (Ru Z u r st) := c0
  have HK0 : Hid (Kp (fun _ => False) w u ∧ w.heap.size + 3 ≤ u.heap.size) := ⟨k0, by omega⟩
  clear k0 l0 c0 lg0 z0
  have HC : Hid (Calls _ _ _ u _) := readNum2 r (itO st 0) u HR0.out (HB.out.it 0)
  go_wp2_with fail
  refine HC.out.mono ?_
  rintro e9 w1 ⟨z0, rfl, hru, hz, kk⟩
  have HR1 : Hid (Ru Z w1 r (itO st 1)) := hru
  have Hz0 : Hid ((itO st 1).isSome = true → z0 = (vlO 1152921504606846976 (itO st 0) : Int)) := hz
  have HK1 : Hid (Kp (fun _ => False) w w1 ∧ w.heap.size + 3 ≤ w1.heap.size) := ⟨HK0.out.1.trans kk (fun b hb e => by have := HO.out; omega), Nat.le_trans HK0.out.2 kk.size⟩
  have HL1 : Hid (Lv w1 g (msgA ⟨0, 0, 0, 0, 0, 0, 0, 0, 0, false, ⟨0, 0, ⟨#[]⟩, 0, 0, 0, 0, 0, 0, 0, 0⟩⟩ (.slice none 0 0) (.slice none 0 0) (.slice none 0 0)).toList) := HL0.out.keep kk (fun e => by have := HO.out; omega)
  have HLh1 : Hid (Lv w1 h2 zeroM.toList) := HLh0.out.keep kk (fun e => by have := HO.out; omega)
  clear hru hz kk HC HR0 HL0 HLh0 HK0
  have HC : Hid (Calls _ _ _ w1 _) := readNum2 r (itO st 1) w1 HR1.out (HB.out.it 1)
  go_wp2_with fail
  refine HC.out.mono ?_
  rintro e9 w2 ⟨z1, rfl, hru, hz, kk⟩
  have HR2 : Hid (Ru Z w2 r (itO st 2)) := hru
  have Hz1 : Hid ((itO st 2).isSome = true → z1 = (vlO 1152921504606846976 (itO st 1) : Int)) := hz
  have HK2 : Hid (Kp (fun _ => False) w w2 ∧ w.heap.size + 3 ≤ w2.heap.size) := ⟨HK1.out.1.trans kk (fun b hb e => by have := HO.out; omega), Nat.le_trans HK1.out.2 kk.size⟩
  have HL2 : Hid (Lv w2 g (msgA ⟨0, 0, 0, 0, 0, 0, 0, 0, 0, false, ⟨0, 0, ⟨#[]⟩, 0, 0, 0, 0, 0, 0, 0, 0⟩⟩ (.slice none 0 0) (.slice none 0 0) (.slice none 0 0)).toList) := HL1.out.keep kk (fun e => by have := HO.out; omega)
  have HLh2 : Hid (Lv w2 h2 zeroM.toList) := HLh1.out.keep kk (fun e => by have := HO.out; omega)
  clear hru hz kk HC HR1 HL1 HLh1 HK1
  have HC : Hid (Calls _ _ _ w2 _) := readNum2 r (itO st 2) w2 HR2.out (HB.out.it 2)
  go_wp2_with fail
  refine HC.out.mono ?_
  rintro e9 w3 ⟨z2, rfl, hru, hz, kk⟩
  have HR3 : Hid (Ru Z w3 r (itO st 3)) := hru
  have Hz2 : Hid ((itO st 3).isSome = true → z2 = (vlO 1152921504606846976 (itO st 2) : Int)) := hz
  have HK3 : Hid (Kp (fun _ => False) w w3 ∧ w.heap.size + 3 ≤ w3.heap.size) := ⟨HK2.out.1.trans kk (fun b hb e => by have := HO.out; omega), Nat.le_trans HK2.out.2 kk.size⟩
  have HL3 : Hid (Lv w3 g (msgA ⟨0, 0, 0, 0, 0, 0, 0, 0, 0, false, ⟨0, 0, ⟨#[]⟩, 0, 0, 0, 0, 0, 0, 0, 0⟩⟩ (.slice none 0 0) (.slice none 0 0) (.slice none 0 0)).toList) := HL2.out.keep kk (fun e => by have := HO.out; omega)
  have HLh3 : Hid (Lv w3 h2 zeroM.toList) := HLh2.out.keep kk (fun e => by have := HO.out; omega)
  clear hru hz kk HC HR2 HL2 HLh2 HK2
  have HC : Hid (Calls _ _ _ w3 _) := readNum2 r (itO st 3) w3 HR3.out (HB.out.it 3)
  go_wp2_with fail
  refine HC.out.mono ?_
  rintro e9 w4 ⟨z3, rfl, hru, hz, kk⟩
  have HR4 : Hid (Ru Z w4 r (itO st 4)) := hru
  have Hz3 : Hid ((itO st 4).isSome = true → z3 = (vlO 1152921504606846976 (itO st 3) : Int)) := hz
  have HK4 : Hid (Kp (fun _ => False) w w4 ∧ w.heap.size + 3 ≤ w4.heap.size) := ⟨HK3.out.1.trans kk (fun b hb e => by have := HO.out; omega), Nat.le_trans HK3.out.2 kk.size⟩
  have HL4 : Hid (Lv w4 g (msgA ⟨0, 0, 0, 0, 0, 0, 0, 0, 0, false, ⟨0, 0, ⟨#[]⟩, 0, 0, 0, 0, 0, 0, 0, 0⟩⟩ (.slice none 0 0) (.slice none 0 0) (.slice none 0 0)).toList) := HL3.out.keep kk (fun e => by have := HO.out; omega)
  have HLh4 : Hid (Lv w4 h2 zeroM.toList) := HLh3.out.keep kk (fun e => by have := HO.out; omega)
  clear hru hz kk HC HR3 HL3 HLh3 HK3
  have HC : Hid (Calls _ _ _ w4 _) := readNum2 r (itO st 4) w4 HR4.out (HB.out.it 4)
  go_wp2_with fail
  refine HC.out.mono ?_
  rintro e9 w5 ⟨z4, rfl, hru, hz, kk⟩
  have HR5 : Hid (Ru Z w5 r (itO st 5)) := hru
  have Hz4 : Hid ((itO st 5).isSome = true → z4 = (vlO 1152921504606846976 (itO st 4) : Int)) := hz
  have HK5 : Hid (Kp (fun _ => False) w w5 ∧ w.heap.size + 3 ≤ w5.heap.size) := ⟨HK4.out.1.trans kk (fun b hb e => by have := HO.out; omega), Nat.le_trans HK4.out.2 kk.size⟩
  have HL5 : Hid (Lv w5 g (msgA ⟨0, 0, 0, 0, 0, 0, 0, 0, 0, false, ⟨0, 0, ⟨#[]⟩, 0, 0, 0, 0, 0, 0, 0, 0⟩⟩ (.slice none 0 0) (.slice none 0 0) (.slice none 0 0)).toList) := HL4.out.keep kk (fun e => by have := HO.out; omega)
  have HLh5 : Hid (Lv w5 h2 zeroM.toList) := HLh4.out.keep kk (fun e => by have := HO.out; omega)
  clear hru hz kk HC HR4 HL4 HLh4 HK4
  have c0 : w5.cell? ⟨g, 0, none⟩ = some (.int .i64 0) := HL5.out.cell (j := 0) rfl
  have f0 : w5.frozen? ⟨g, 0, none⟩ = false := HL5.out.fz (show 0 < 24 by omega)
  have c1 : w5.cell? ⟨g, 1, none⟩ = some (.int .i64 0) := HL5.out.cell (j := 1) rfl
  have f1 : w5.frozen? ⟨g, 1, none⟩ = false := HL5.out.fz (show 1 < 24 by omega)
  have c2 : w5.cell? ⟨g, 2, none⟩ = some (.int .i64 0) := HL5.out.cell (j := 2) rfl
  have f2 : w5.frozen? ⟨g, 2, none⟩ = false := HL5.out.fz (show 2 < 24 by omega)
  have c3 : w5.cell? ⟨g, 3, none⟩ = some (.int .i64 0) := HL5.out.cell (j := 3) rfl
  have f3 : w5.frozen? ⟨g, 3, none⟩ = false := HL5.out.fz (show 3 < 24 by omega)
  have c4 : w5.cell? ⟨g, 4, none⟩ = some (.int .i64 0) := HL5.out.cell (j := 4) rfl
  have f4 : w5.frozen? ⟨g, 4, none⟩ = false := HL5.out.fz (show 4 < 24 by omega)
  go_upto_region 4 with fail
  clear c0 f0 c1 f1 c2 f2 c3 f3 c4 f4
  obtain ⟨w6, hw⟩ : ∃ x, x = (((((w5.setCell ⟨g, 0, none⟩ (.int .i64 (z0))).setCell ⟨g, 1, none⟩ (.int .i64 (z1))).setCell ⟨g, 2, none⟩ (.int .i64 (z2))).setCell ⟨g, 3, none⟩ (.int .i64 (z3))).setCell ⟨g, 4, none⟩ (.int .i64 (z4))) := ⟨_, rfl⟩
  have HL6 : Hid (Lv w6 g (msgA ⟨z0, z1, z2, z3, z4, 0, 0, 0, 0, false, ⟨0, 0, ⟨#[]⟩, 0, 0, 0, 0, 0, 0, 0, 0⟩⟩ (.slice none 0 0) (.slice none 0 0) (.slice none 0 0)).toList) := by rw [hw]; exact (((((HL5.out.set1' 0 _ (by show _ < 24; omega)).set1' 1 _ (by show _ < 24; omega)).set1' 2 _ (by show _ < 24; omega)).set1' 3 _ (by show _ < 24; omega)).set1' 4 _ (by show _ < 24; omega))
  have ks : Kp (fun b => b = g) w5 w6 := by rw [hw]; show Kp _ _ _; exact (((((Kp.refl (fun b => b = g) w5).setCell (fun _ => rfl) _).setCell (fun _ => rfl) _).setCell (fun _ => rfl) _).setCell (fun _ => rfl) _).setCell (fun _ => rfl) _
  have HK6 : Hid (Kp (fun _ => False) w w6 ∧ w.heap.size + 3 ≤ w6.heap.size) := ⟨HK5.out.1.trans ks (fun b hb e => by have := HO.out; omega), Nat.le_trans HK5.out.2 ks.size⟩
  have HLh6 : Hid (Lv w6 h2 zeroM.toList) := HLh5.out.keep ks (fun e => by have := HO.out; omega)
  have HR6 : Hid (Ru Z w6 r (itO st 5)) := HR5.out.keep ks (fun e => by have := HO.out; omega) (fun b hb e => HZ.out.1 (e ▸ hb))
  rw [← hw]
  clear ks hw HK5 HL5 HLh5 HR5
  have HC : Hid (Calls _ _ _ w6 _) := readNum2 r (itO st 5) w6 HR6.out (HB.out.it 5)
  go_wp2_with fail
  refine HC.out.mono ?_
  rintro e9 w7 ⟨z5, rfl, hru, hz, kk⟩
  have HR7 : Hid (Ru Z w7 r (itO st 6)) := hru
  have Hz5 : Hid ((itO st 6).isSome = true → z5 = (vlO 1152921504606846976 (itO st 5) : Int)) := hz
  have HK7 : Hid (Kp (fun _ => False) w w7 ∧ w.heap.size + 3 ≤ w7.heap.size) := ⟨HK6.out.1.trans kk (fun b hb e => by have := HO.out; omega), Nat.le_trans HK6.out.2 kk.size⟩
  have HL7 : Hid (Lv w7 g (msgA ⟨z0, z1, z2, z3, z4, 0, 0, 0, 0, false, ⟨0, 0, ⟨#[]⟩, 0, 0, 0, 0, 0, 0, 0, 0⟩⟩ (.slice none 0 0) (.slice none 0 0) (.slice none 0 0)).toList) := HL6.out.keep kk (fun e => by have := HO.out; omega)
  have HLh7 : Hid (Lv w7 h2 zeroM.toList) := HLh6.out.keep kk (fun e => by have := HO.out; omega)
  clear hru hz kk HC HR6 HL6 HLh6 HK6
  have HC : Hid (Calls _ _ _ w7 _) := readNum2 r (itO st 6) w7 HR7.out (HB.out.it 6)
  go_wp2_with fail
  refine HC.out.mono ?_
  rintro e9 w8 ⟨z6, rfl, hru, hz, kk⟩
  have HR8 : Hid (Ru Z w8 r (itO st 7)) := hru
  have Hz6 : Hid ((itO st 7).isSome = true → z6 = (vlO 1152921504606846976 (itO st 6) : Int)) := hz
  have HK8 : Hid (Kp (fun _ => False) w w8 ∧ w.heap.size + 3 ≤ w8.heap.size) := ⟨HK7.out.1.trans kk (fun b hb e => by have := HO.out; omega), Nat.le_trans HK7.out.2 kk.size⟩
  have HL8 : Hid (Lv w8 g (msgA ⟨z0, z1, z2, z3, z4, 0, 0, 0, 0, false, ⟨0, 0, ⟨#[]⟩, 0, 0, 0, 0, 0, 0, 0, 0⟩⟩ (.slice none 0 0) (.slice none 0 0) (.slice none 0 0)).toList) := HL7.out.keep kk (fun e => by have := HO.out; omega)
  have HLh8 : Hid (Lv w8 h2 zeroM.toList) := HLh7.out.keep kk (fun e => by have := HO.out; omega)
  clear hru hz kk HC HR7 HL7 HLh7 HK7
  have HC : Hid (Calls _ _ _ w8 _) := readNum2 r (itO st 7) w8 HR8.out (HB.out.it 7)
  go_wp2_with fail
  refine HC.out.mono ?_
  rintro e9 w9 ⟨z7, rfl, hru, hz, kk⟩
  have HR9 : Hid (Ru Z w9 r (itO st 8)) := hru
  have Hz7 : Hid ((itO st 8).isSome = true → z7 = (vlO 1152921504606846976 (itO st 7) : Int)) := hz
  have HK9 : Hid (Kp (fun _ => False) w w9 ∧ w.heap.size + 3 ≤ w9.heap.size) := ⟨HK8.out.1.trans kk (fun b hb e => by have := HO.out; omega), Nat.le_trans HK8.out.2 kk.size⟩
  have HL9 : Hid (Lv w9 g (msgA ⟨z0, z1, z2, z3, z4, 0, 0, 0, 0, false, ⟨0, 0, ⟨#[]⟩, 0, 0, 0, 0, 0, 0, 0, 0⟩⟩ (.slice none 0 0) (.slice none 0 0) (.slice none 0 0)).toList) := HL8.out.keep kk (fun e => by have := HO.out; omega)
  have HLh9 : Hid (Lv w9 h2 zeroM.toList) := HLh8.out.keep kk (fun e => by have := HO.out; omega)
  clear hru hz kk HC HR8 HL8 HLh8 HK8
  have HC : Hid (Calls _ _ _ w9 _) := readNum2 r (itO st 8) w9 HR9.out (HB.out.it 8)
  go_wp2_with fail
  refine HC.out.mono ?_
  rintro e9 w10 ⟨z8, rfl, hru, hz, kk⟩
  have HR10 : Hid (Ru Z w10 r (itO st 9)) := hru
  have Hz8 : Hid ((itO st 9).isSome = true → z8 = (vlO 1152921504606846976 (itO st 8) : Int)) := hz
  have HK10 : Hid (Kp (fun _ => False) w w10 ∧ w.heap.size + 3 ≤ w10.heap.size) := ⟨HK9.out.1.trans kk (fun b hb e => by have := HO.out; omega), Nat.le_trans HK9.out.2 kk.size⟩
  have HL10 : Hid (Lv w10 g (msgA ⟨z0, z1, z2, z3, z4, 0, 0, 0, 0, false, ⟨0, 0, ⟨#[]⟩, 0, 0, 0, 0, 0, 0, 0, 0⟩⟩ (.slice none 0 0) (.slice none 0 0) (.slice none 0 0)).toList) := HL9.out.keep kk (fun e => by have := HO.out; omega)
  have HLh10 : Hid (Lv w10 h2 zeroM.toList) := HLh9.out.keep kk (fun e => by have := HO.out; omega)
  clear hru hz kk HC HR9 HL9 HLh9 HK9
  have c5 : w10.cell? ⟨g, 5, none⟩ = some (.int .i64 0) := HL10.out.cell (j := 5) rfl
  have f5 : w10.frozen? ⟨g, 5, none⟩ = false := HL10.out.fz (show 5 < 24 by omega)
  have c6 : w10.cell? ⟨g, 6, none⟩ = some (.int .i64 0) := HL10.out.cell (j := 6) rfl
  have f6 : w10.frozen? ⟨g, 6, none⟩ = false := HL10.out.fz (show 6 < 24 by omega)
  have c7 : w10.cell? ⟨g, 7, none⟩ = some (.int .i64 0) := HL10.out.cell (j := 7) rfl
  have f7 : w10.frozen? ⟨g, 7, none⟩ = false := HL10.out.fz (show 7 < 24 by omega)
  have c8 : w10.cell? ⟨g, 8, none⟩ = some (.int .i64 0) := HL10.out.cell (j := 8) rfl
  have f8 : w10.frozen? ⟨g, 8, none⟩ = false := HL10.out.fz (show 8 < 24 by omega)
  go_upto_region 5 with fail
  clear c5 f5 c6 f6 c7 f7 c8 f8
  obtain ⟨w11, hw⟩ : ∃ x, x = ((((w10.setCell ⟨g, 5, none⟩ (.int .i64 (z5))).setCell ⟨g, 6, none⟩ (.int .i64 (z6))).setCell ⟨g, 7, none⟩ (.int .i64 (z7))).setCell ⟨g, 8, none⟩ (.int .i64 (z8))) := ⟨_, rfl⟩
  have HL11 : Hid (Lv w11 g (msgA ⟨z0, z1, z2, z3, z4, z5, z6, z7, z8, false, ⟨0, 0, ⟨#[]⟩, 0, 0, 0, 0, 0, 0, 0, 0⟩⟩ (.slice none 0 0) (.slice none 0 0) (.slice none 0 0)).toList) := by rw [hw]; exact ((((HL10.out.set1' 5 _ (by show _ < 24; omega)).set1' 6 _ (by show _ < 24; omega)).set1' 7 _ (by show _ < 24; omega)).set1' 8 _ (by show _ < 24; omega))
  have ks : Kp (fun b => b = g) w10 w11 := by rw [hw]; show Kp _ _ _; exact ((((Kp.refl (fun b => b = g) w10).setCell (fun _ => rfl) _).setCell (fun _ => rfl) _).setCell (fun _ => rfl) _).setCell (fun _ => rfl) _
  have HK11 : Hid (Kp (fun _ => False) w w11 ∧ w.heap.size + 3 ≤ w11.heap.size) := ⟨HK10.out.1.trans ks (fun b hb e => by have := HO.out; omega), Nat.le_trans HK10.out.2 ks.size⟩
  have HLh11 : Hid (Lv w11 h2 zeroM.toList) := HLh10.out.keep ks (fun e => by have := HO.out; omega)
  have HR11 : Hid (Ru Z w11 r (m9 st)) := HR10.out.keep ks (fun e => by have := HO.out; omega) (fun b hb e => HZ.out.1 (e ▸ hb))
  rw [← hw]
  clear ks hw HK10 HL10 HLh10 HR10
  have HC : Hid (Calls _ _ _ w11 _) := rtake2 r 1 (m9 st) w11 HR11.out
  go_upto_region 6 with (go_at_call 45; refine HC.out.mono ?_; rintro e9 wt ⟨⟨qt, mt, ct, rfl, hmc, hrb, hru, _⟩, kk⟩)
  have HRt : Hid (Ru Z wt r (takeO 1 (m9 st))) := hru
  have HRb : Hid (Rb wt qt mt (tkB 1 (m9 st))) := hrb
  have HK12 : Hid (Kp (fun _ => False) w wt ∧ w.heap.size + 3 ≤ wt.heap.size) := ⟨HK11.out.1.trans kk (fun b hb e => by have := HO.out; omega), Nat.le_trans HK11.out.2 kk.size⟩
  have HL12 : Hid (Lv wt g (msgA ⟨z0, z1, z2, z3, z4, z5, z6, z7, z8, false, ⟨0, 0, ⟨#[]⟩, 0, 0, 0, 0, 0, 0, 0, 0⟩⟩ (.slice none 0 0) (.slice none 0 0) (.slice none 0 0)).toList) := HL11.out.keep kk (fun e => by have := HO.out; omega)
  have HLh12 : Hid (Lv wt h2 zeroM.toList) := HLh11.out.keep kk (fun e => by have := HO.out; omega)
  clear hru kk HC HR11 HL11 HLh11 HK11 hmc hrb
  have hbt : wt.cell? ⟨r, 1, none⟩ = some (.bool (takeO 1 (m9 st)).isNone) := HRt.out.b
  have hft : wt.frozen? ⟨r, 1, none⟩ = false := HRt.out.f
  have c9 : wt.cell? ⟨g, 9, none⟩ = some (.bool false) := HL12.out.cell (j := 9) rfl
  have f9 : wt.frozen? ⟨g, 9, none⟩ = false := HL12.out.fz (show 9 < 24 by omega)
  have HTr : Hid (_ ∨ _) := tr_cases (m9 st) (HB.out.it 9)
  obtain ⟨Bq, hBq⟩ : ∃ x, x = (m10 st).isNone := ⟨_, rfl⟩
  have HBq : Hid (Bq = (m10 st).isNone) := hBq
  clear hBq
  go_cut [49] (fun v wz => v = .bool Bq ∧ wt = wz)
  case first =>
    rcases HTr.out with ⟨e1, e2⟩ | ⟨x, t, hx, e1, e2, e3⟩
    · rw [e1] at hbt
      have hbt' : wt.cell? ⟨r, 1, none⟩ = some (.bool true) := hbt
      go_wp2_with fail
      go_meet
      exact ⟨by rw [HBq.out, show m10 st = none from e2]; rfl, rfl⟩
    · have hrb := HRb.out
      rw [e2] at hrb
      have hmt : mt = 1 := hrb.len.symm
      subst hmt
      obtain ⟨b1, o1, rfl, hc1⟩ := hrb.pt (by omega)
      have hc1' : wt.cell? ⟨b1, o1, none⟩ = some (.int .u8 (x : Int)) := hc1 0 (by omega)
      rw [e1] at hbt
      have hbt' : wt.cell? ⟨r, 1, none⟩ = some (.bool false) := hbt
      have hxi : (x : Int) < 256 := by omega
      clear hbt hc1 hrb
      rcases e3 with ⟨h1, e4⟩ | ⟨h1, e4, e5⟩
      · have h1i : (1 : Int) < (x : Int) := by omega
        have HV : Hid (Bq = true) := by show _ = _; rw [HBq.out, show m10 st = none from e4]; rfl
        clear e4 e1 e2
        go_wp2_with fail
        go_meet
        exact ⟨by have h9 := HV.out; subst h9; first | rfl | simp [h1, h1i], rfl⟩
      · have h1i : (x : Int) ≤ 1 := by omega
        have HV : Hid (Bq = false) := by show _ = _; rw [HBq.out, show m10 st = some t from e4]; rfl
        clear e4 e5 e1 e2
        go_wp2_with fail
        go_meet
        exact ⟨by have h9 := HV.out; subst h9; first | rfl | simp [h1, h1i], rfl⟩
  obtain ⟨rfl, rfl⟩ := hcut
  go_upto_if 49 with fail
  go_cut [] (fun wz => ∃ bo : Bool, Ru Z wz r (m10 st) ∧ Lv wz g (msgA ⟨z0, z1, z2, z3, z4, z5, z6, z7, z8, bo, ⟨0, 0, ⟨#[]⟩, 0, 0, 0, 0, 0, 0, 0, 0⟩⟩ (.slice none 0 0) (.slice none 0 0) (.slice none 0 0)).toList ∧ ((m10 st).isSome = true → bo = boO (m9 st)) ∧ Lv wz h2 zeroM.toList ∧ Kp (fun _ => False) w wz ∧ w.heap.size + 3 ≤ wz.heap.size)
  case first =>
    cases hb9 : Bq with
    | true =>
      have HN : Hid (m10 st = none) := by
        have h9 := HBq.out
        rw [hb9] at h9
        show _ = _
        cases h8 : m10 st with
        | none => rfl
        | some t => rw [h8] at h9; cases h9
      clear c9 f9
      go_wp2_with fail
      go_meet
      obtain ⟨a1, a2⟩ := HRt.out.bad
      exact ⟨false, by rw [HN.out]; exact a1, HL12.out.keep a2 (fun e => by have := HO.out; omega), fun e => (by rw [HN.out] at e; cases e), HLh12.out.keep a2 (fun e => by have := HO.out; omega), HK12.out.1.trans a2 (fun b hb e => by have := HO.out; omega), Nat.le_trans HK12.out.2 a2.size⟩
    | false =>
      have h9 := HBq.out
      rw [hb9] at h9
      rcases HTr.out with ⟨e1, e2⟩ | ⟨x, t, hx, e1, e2, ⟨h1, e4⟩ | ⟨h1, e4, e5⟩⟩
      · rw [show m10 st = none from e2] at h9; cases h9
      · rw [show m10 st = none from e4] at h9; cases h9
      · have hrb := HRb.out
        rw [e2] at hrb
        have hmt : mt = 1 := hrb.len.symm
        subst hmt
        obtain ⟨b1, o1, rfl, hc1⟩ := hrb.pt (by omega)
        have hc1' : wt.cell? ⟨b1, o1, none⟩ = some (.int .u8 (x : Int)) := hc1 0 (by omega)
        have HEnd : Hid (∀ bo : Bool, bo = (x == 1) → ∃ bo' : Bool, Ru Z (wt.setCell ⟨g, 9, none⟩ (.bool bo)) r (m10 st) ∧ Lv (wt.setCell ⟨g, 9, none⟩ (.bool bo)) g (msgA ⟨z0, z1, z2, z3, z4, z5, z6, z7, z8, bo', ⟨0, 0, ⟨#[]⟩, 0, 0, 0, 0, 0, 0, 0, 0⟩⟩ (.slice none 0 0) (.slice none 0 0) (.slice none 0 0)).toList ∧ ((m10 st).isSome = true → bo' = boO (m9 st)) ∧ Lv (wt.setCell ⟨g, 9, none⟩ (.bool bo)) h2 zeroM.toList ∧ Kp (fun _ => False) w (wt.setCell ⟨g, 9, none⟩ (.bool bo)) ∧ w.heap.size + 3 ≤ (wt.setCell ⟨g, 9, none⟩ (.bool bo)).heap.size) := fun bo hbo => by
          have a2 : Kp (fun b => b = g) wt (wt.setCell ⟨g, 9, none⟩ (.bool bo)) := by show Kp _ _ _; exact (Kp.refl (fun b => b = g) wt).setCell (fun _ => rfl) _
          exact ⟨bo, by rw [show m10 st = some t from e4, ← e1]; exact HRt.out.keep a2 (fun e => by have := HO.out; omega) (fun b hb e => HZ.out.1 (e ▸ hb)), HL12.out.set1' 9 _ (by show _ < 24; omega), fun _ => by rw [e5, hbo], HLh12.out.keep a2 (fun e => by have := HO.out; omega), HK12.out.1.trans a2 (fun b hb e => by have := HO.out; omega), Nat.le_trans HK12.out.2 a2.size⟩
        clear hc1 hrb e1 e2 e4 e5 h9 hbt hft
        rcases (show x = 0 ∨ x = 1 by omega) with e | e
        · subst e
          have hc2 : wt.cell? ⟨b1, o1, none⟩ = some (.int .u8 0) := hc1'
          clear hc1'
          go_wp2_with fail
          go_meet
          exact HEnd.out false rfl
        · subst e
          have hc2 : wt.cell? ⟨b1, o1, none⟩ = some (.int .u8 1) := hc1'
          clear hc1'
          go_wp2_with fail
          go_meet
          exact HEnd.out true rfl
  obtain ⟨bo, hru, hl, hbo, hlh, hk, hsz⟩ := hcut
  have HR0 : Hid (Ru Z wc r (m10 st)) := hru
  have HL0 : Hid (Lv wc g (msgA ⟨z0, z1, z2, z3, z4, z5, z6, z7, z8, bo, ⟨0, 0, ⟨#[]⟩, 0, 0, 0, 0, 0, 0, 0, 0⟩⟩ (.slice none 0 0) (.slice none 0 0) (.slice none 0 0)).toList) := hl
  have HBo : Hid ((m10 st).isSome = true → bo = boO (m9 st)) := hbo
  have HLh0 : Hid (Lv wc h2 zeroM.toList) := hlh
  have HK0 : Hid (Kp (fun _ => False) w wc ∧ w.heap.size + 3 ≤ wc.heap.size) := ⟨hk, hsz⟩
  clear hru hl hbo hlh hk hsz HRt HRb HL12 HLh12 HK12 HTr HBq c9 f9 hbt hft
  have HC : Hid (Calls _ _ _ wc _) := xcmd_ok r (m10 st) wc HR0.out (HB.out.it 9).tr (fun b hb => by have := HZ.out.2.2 b hb; have := HK0.out.2; omega)
  go_wp2_with fail
  refine HC.out.mono ?_
  rintro e9 wd ⟨hq, kk⟩
  obtain ⟨cs0, q, n1, cap1, rfl, hru, hcs⟩ := hq.norm
  have HR1 : Hid (Ru Z wd r (m11 st)) := hru
  have HCs : Hid ((m11 st).isSome = true → cs0 = csOf (cpX (m10 st)) ∧ n1 = (cpX (m10 st)).nodes.length ∧ Fl wd (fun b => w.heap.size + 3 ≤ b ∧ b < wd.heap.size) q ((intsOf (cpX (m10 st)).nodes).map encI)) := fun e => ⟨(hcs e).1, (hcs e).2.1, (hcs e).2.2.mono (fun b hb => ⟨Nat.le_trans HK0.out.2 hb.1, hb.2⟩)⟩
  have HL1 : Hid (Lv wd g (msgA ⟨z0, z1, z2, z3, z4, z5, z6, z7, z8, bo, ⟨0, 0, ⟨#[]⟩, 0, 0, 0, 0, 0, 0, 0, 0⟩⟩ (.slice none 0 0) (.slice none 0 0) (.slice none 0 0)).toList) := HL0.out.keep kk (fun e => by have := HO.out; omega)
  have HLh1 : Hid (Lv wd h2 zeroM.toList) := HLh0.out.keep kk (fun e => by have := HO.out; omega)
  have HK1 : Hid (Kp (fun _ => False) w wd ∧ w.heap.size + 3 ≤ wd.heap.size) := ⟨HK0.out.1.trans kk (fun b hb e => by have := HO.out; omega), Nat.le_trans HK0.out.2 kk.size⟩
  have HOc : Hid ((cmdA cs0 (.slice q n1 cap1)).toList.toArray.all (·.oneCell') = true) := cmd_one _ rfl
  clear hq hru hcs kk HC HR0 HL0 HLh0 HK0
  go_upto_region 10 with (refine wpList_store_sub rfl 27 _ _ rfl 12 g 10 (msgA ⟨z0, z1, z2, z3, z4, z5, z6, z7, z8, bo, ⟨0, 0, ⟨#[]⟩, 0, 0, 0, 0, 0, 0, 0, 0⟩⟩ (.slice none 0 0) (.slice none 0 0) (.slice none 0 0)).toList (cmdA cs0 (.slice q n1 cap1)).toList (msgA ⟨z0, z1, z2, z3, z4, z5, z6, z7, z8, bo, cs0⟩ (.slice q n1 cap1) (.slice none 0 0) (.slice none 0 0)).toList rfl rfl HL1.out szCmd rfl (by show 10 + 12 ≤ 24; decide) HOc.out rfl ?_; intro we hle ke)
  have HL2 : Hid (Lv we g (msgA ⟨z0, z1, z2, z3, z4, z5, z6, z7, z8, bo, cs0⟩ (.slice q n1 cap1) (.slice none 0 0) (.slice none 0 0)).toList) := hle
  have HR2 : Hid (Ru Z we r (m11 st)) := HR1.out.keep ke (fun e => by have := HO.out; omega) (fun b hb e => HZ.out.1 (e ▸ hb))
  have HCt : Hid ((m11 st).isSome = true → cs0 = csOf (cpX (m10 st)) ∧ n1 = (cpX (m10 st)).nodes.length ∧ Fl we (fun b => w.heap.size + 3 ≤ b ∧ b < we.heap.size) q ((intsOf (cpX (m10 st)).nodes).map encI)) := fun e => ⟨(HCs.out e).1, (HCs.out e).2.1, ((HCs.out e).2.2.keep ke (fun b hb e => by have := HO.out; omega)).mono (fun b hb => ⟨hb.1, Nat.lt_of_lt_of_le hb.2 ke.size⟩)⟩
  have HLh2 : Hid (Lv we h2 zeroM.toList) := HLh1.out.keep ke (fun e => by have := HO.out; omega)
  have HK2 : Hid (Kp (fun _ => False) w we ∧ w.heap.size + 3 ≤ we.heap.size) := ⟨HK1.out.1.trans ke (fun b hb e => by have := HO.out; omega), Nat.le_trans HK1.out.2 ke.size⟩
  clear hle ke HR1 HL1 HLh1 HK1 HCs HOc
  have HC : Hid (Calls _ _ _ we _) := rlist2 r 1000 (m11 st) we HR2.out (by decide) ((HB.out.it 9).tr).cx
  go_wp2_with fail
  refine HC.out.mono ?_
  rintro e9 wl ⟨rfl, hru, kk⟩
  have HX0 : Hid (Ru Z wl r (m12 st) ∧ XI w wl g h2 (msgA ⟨z0, z1, z2, z3, z4, z5, z6, z7, z8, bo, cs0⟩ (.slice q n1 cap1) (.slice none 0 0) (.slice none 0 0)).toList (.slice none 0 0) [] ((m12 st).isSome = true) ((m11 st).isSome = true) [] q (intsOf (cpX (m10 st)).nodes)) := ⟨hru, World.ownsRow_nil _ _ _ _, fun _ => ⟨rfl, fun x hx => (by cases hx)⟩, HL2.out.keep kk (fun e => by have := HO.out; omega), HLh2.out.keep kk (fun e => by have := HO.out; omega), HK2.out.1.trans kk (fun b hb e => by have := HO.out; omega), fun c => ((HCt.out c).2.2.keep kk (fun b hb e => by have := HO.out; omega)).mono (fun b hb => ⟨hb.1, Nat.lt_of_lt_of_le hb.2 kk.size, by simp [Value.ownBlock]⟩), Nat.le_trans HK2.out.2 kk.size⟩
  have HCc : Hid ((m11 st).isSome = true → cs0 = csOf (cpX (m10 st)) ∧ n1 = (cpX (m10 st)).nodes.length) := fun e => ⟨(HCt.out e).1, (HCt.out e).2.1⟩
  clear hru kk HC HR2 HL2 HLh2 HK2 HCt
  obtain ⟨N, hN⟩ : ∃ x, x = vlO 1000 (m11 st) := ⟨_, rfl⟩
  rw [← hN]
  have HN : Hid (N = mnO st ∧ N ≤ 1000) := ⟨hN, by rw [hN]; exact vlO_le _ _⟩
  have hn : (N : Int) ≤ 1000 := by have := HN.out.2; omega
  clear hN
  have HB12 : Hid (Byt (m12 st)) := (((HB.out.it 9).tr).cx).nxt 1000
  go_wp2_with fail
  go_loopg [63] N (fun gk iv wz => ∃ (k : Nat) (v : Value) (l : List (Vo × Value)), k ≤ N ∧ gk = N - k ∧ iv = .int .i64 k ∧ Hid (l.length = k ∧ Ru Z wz r (vstO (m12 st) k) ∧ XI w wz g h2 (msgA ⟨z0, z1, z2, z3, z4, z5, z6, z7, z8, bo, cs0⟩ (.slice q n1 cap1) v (.slice none 0 0)).toList v l ((vstO (m12 st) k).isSome = true) ((m11 st).isSome = true) ((List.range k).map (fun i => voOf (vpO (m12 st) i))) q (intsOf (cpX (m10 st)).nodes)))
  case atStart => exact ⟨0, .slice none 0 0, [], Nat.zero_le _, rfl, rfl, rfl, HX0.out⟩
  case round =>
    obtain ⟨k, v, l, hk, rfl, rfl, HRr⟩ := hrel
    by_cases hlt : (k : Int) < (N : Int)
    · have HKi : Hid (wrap64 ((k : Int) + 1) = ((k + 1 : Nat) : Int)) := (by show _ = _; unfold wrap64; omega)
      have HBk : Hid (Byt (vstO (m12 st) k)) := HB12.out.vst k
      have HC : Hid (Calls _ _ _ wr _) := readNum2 r (itO (vstO (m12 st) k) 0) wr HRr.out.2.1 HBk.out
      go_wp2_with fail
      refine HC.out.mono ?_
      rintro e9 wa ⟨y0, rfl, hra, hy0, ka⟩
      have Hy0 : Hid ((itO (vstO (m12 st) k) 1).isSome = true → y0 = (vlO 1152921504606846976 (itO (vstO (m12 st) k) 0) : Int)) := hy0
      have HC : Hid (Calls _ _ _ wa _) := readNum2 r (itO (vstO (m12 st) k) 1) wa hra (HBk.out.it 1)
      have HKa : Hid (Kp (fun b => b = r) wr wa) := ka
      clear hra hy0 ka
      go_wp2_with fail
      refine HC.out.mono ?_
      rintro e9 wb ⟨y1, rfl, hrb, hy1, kb⟩
      have Hy1 : Hid ((itO (vstO (m12 st) k) 2).isSome = true → y1 = (vlO 1152921504606846976 (itO (vstO (m12 st) k) 1) : Int)) := hy1
      have HKb : Hid (Kp (fun b => b = r) wr wb) := HKa.out.trans kb (fun _ _ e => e)
      have HRb : Hid (Ru Z wb r (itO (vstO (m12 st) k) 2)) := hrb
      clear hrb hy1 kb HC HKa
      have HX : Hid (XI w wr g h2 (msgA ⟨z0, z1, z2, z3, z4, z5, z6, z7, z8, bo, cs0⟩ (.slice q n1 cap1) v (.slice none 0 0)).toList v l ((vstO (m12 st) k).isSome = true) ((m11 st).isSome = true) ((List.range k).map (fun i => voOf (vpO (m12 st) i))) q (intsOf (cpX (m10 st)).nodes)) := HRr.out.2.2
      have HLk : Hid (l.length = k) := HRr.out.1
      clear HRr
      obtain ⟨ql, cl, rfl, _⟩ := own_fl HX.out.ow
      go_wp2_with fail
      obtain ⟨wc2, hwc⟩ : ∃ x, x = wb.alloc (.cells (vcell ⟨y0, y1, ⟨0, 0, ⟨#[]⟩, 0, 0, 0, 0, 0, 0, 0, 0⟩, []⟩ (.slice none 0 0)).toArray 72) := ⟨_, rfl⟩
      have hlc : Lv wc2 wb.heap.size (vcell ⟨y0, y1, ⟨0, 0, ⟨#[]⟩, 0, 0, 0, 0, 0, 0, 0, 0⟩, []⟩ (.slice none 0 0)) := by rw [hwc]; exact Lv.new wb _ _
      have kbc : Kp (fun _ => False) wb wc2 := by rw [hwc]; exact (Kp.refl (fun _ => False) wb).alloc _
      rw [show wb.alloc (.cells #[.int .i64 y0, .int .i64 y1, .int .i64 0, .int .i64 0, .string ⟨#[]⟩, .int .i64 0, .int .i64 0, .int .i64 0, .int .i64 0, .int .i64 0, .int .u32 0, .int .i64 0, .int .i64 0, .slice none 0 0] 72) = wc2 from hwc.symm]
      clear hwc
      obtain ⟨gv, hgv⟩ : ∃ x, x = wb.heap.size := ⟨_, rfl⟩
      rw [← hgv] at hlc ⊢
      have HLc : Hid (Lv wc2 gv (vcell ⟨y0, y1, ⟨0, 0, ⟨#[]⟩, 0, 0, 0, 0, 0, 0, 0, 0⟩, []⟩ (.slice none 0 0))) := hlc
      have HRc : Hid (Ru Z wc2 r (itO (vstO (m12 st) k) 2)) := HRb.out.keep kbc id (fun _ _ => id)
      have HKc : Hid (Kp (fun b => b = r) wr wc2) := HKb.out.trans kbc (fun _ _ e => e.elim)
      have HG : Hid (wr.heap.size ≤ gv ∧ w.heap.size + 3 ≤ gv ∧ gv < wc2.heap.size) := ⟨by rw [hgv]; exact HKb.out.size, by rw [hgv]; exact Nat.le_trans HX.out.sz HKb.out.size, hlc.lt (by show 0 < 14; decide)⟩
      clear hlc kbc hgv HRb HKb
      have HC : Hid (Calls _ _ _ wc2 _) := xcmd_ok r (itO (vstO (m12 st) k) 2) wc2 HRc.out (HBk.out.it 2) (fun b hb => by have := HZ.out.2.2 b hb; have := HG.out; omega)
      refine HC.out.mono ?_
      rintro e9 wd2 ⟨hq, kk⟩
      obtain ⟨cv0, q2, n2, cap2, rfl, hru, hcs⟩ := hq.norm
      have HRd : Hid (Ru Z wd2 r (vstO (m12 st) (k + 1))) := hru
      have HCv : Hid ((vstO (m12 st) (k + 1)).isSome = true → cv0 = csOf (cpX (itO (vstO (m12 st) k) 2)) ∧ n2 = (cpX (itO (vstO (m12 st) k) 2)).nodes.length ∧ Fl wd2 (fun b => gv < b ∧ b < wd2.heap.size) q2 ((intsOf (cpX (itO (vstO (m12 st) k) 2)).nodes).map encI)) := fun e => ⟨(hcs e).1, (hcs e).2.1, (hcs e).2.2.mono (fun b hb => ⟨Nat.lt_of_lt_of_le HG.out.2.2 hb.1, hb.2⟩)⟩
      have HLd : Hid (Lv wd2 gv (vcell ⟨y0, y1, ⟨0, 0, ⟨#[]⟩, 0, 0, 0, 0, 0, 0, 0, 0⟩, []⟩ (.slice none 0 0))) := HLc.out.keep kk (fun e => by have := HO.out; have := HG.out; omega)
      have HKd : Hid (Kp (fun b => b = r) wr wd2) := HKc.out.trans kk (fun _ _ e => e)
      have HOc : Hid ((cmdA cv0 (.slice q2 n2 cap2)).toList.toArray.all (·.oneCell') = true) := cmd_one _ rfl
      clear hq hru hcs kk HC HRc HLc HKc
      obtain ⟨yv, hyv⟩ : ∃ x : Vo × Value, x = (⟨y0, y1, cv0, intsOf (cpX (itO (vstO (m12 st) k) 2)).nodes⟩, .slice q2 n2 cap2) := ⟨_, rfl⟩
      go_upto_region 14 with (refine wpList_store_sub rfl 27 _ _ rfl 12 gv 2 (vcell ⟨y0, y1, ⟨0, 0, ⟨#[]⟩, 0, 0, 0, 0, 0, 0, 0, 0⟩, []⟩ (.slice none 0 0)) (cmdA cv0 (.slice q2 n2 cap2)).toList (vcell yv.1 yv.2) rfl rfl HLd.out szCmd rfl (by show 2 + 12 ≤ 14; decide) HOc.out (by rw [hyv]; rfl) ?_; intro we2 hle ke)
      have HLe : Hid (Lv we2 gv (vcell yv.1 yv.2)) := hle
      have HRe : Hid (Ru Z we2 r (vstO (m12 st) (k + 1))) := HRd.out.keep ke (fun e => by have := HO.out; have := HG.out; omega) (fun b hb e => by have := HZ.out.2.2 b hb; have := HG.out; omega)
      have HKe : Hid (Kp (fun b => b = r) wr we2) := HKd.out.trans ke (fun b hb e => by have := HG.out; omega)
      have HYv : Hid ((vstO (m12 st) (k + 1)).isSome = true → yv.1 = voOf (vpO (m12 st) k) ∧ ∃ p cap, yv.2 = .slice p yv.1.nodes.length cap ∧ Fl we2 (fun b => wr.heap.size ≤ b ∧ b < we2.heap.size) p (yv.1.nodes.map encI) ∧ yv.1.nodes.length * 8 ≤ 140737488355328) := fun c => by
        obtain ⟨a1, a2, a3⟩ := HCv.out c
        have c2 := cxO_isSome (st := itO (vstO (m12 st) k) 2) c
        have c1 := itO_isSome (st := vstO (m12 st) k) (i := 1) (j := 2) (by decide) c2
        have hf := cpX_fit (HBk.out.it 2) c
        rw [hyv, Hy0.out c1, Hy1.out c2, a1, a2]
        refine ⟨rfl, q2, cap2, ?_, (a3.keep ke (fun b hb e => by omega)).mono (fun b hb => ⟨by have := HG.out; omega, Nat.lt_of_lt_of_le hb.2 ke.size⟩), ?_⟩
        · show Value.slice _ _ _ = Value.slice _ (intsOf _).length _
          rw [intsOf_len]
        · show (intsOf _).length * 8 ≤ _
          rw [intsOf_len]
          have := hf.l
          omega
      have HY1 : Hid (yv.2.oneCell' = true) := by rw [hyv]; exact rfl
      clear hle ke HRd HKd HCv HLd HOc hyv Hy0 Hy1
      have c22 : we2.cell? ⟨g, 22, none⟩ = some (.slice ql l.length cl) := (HX.out.lg.keep HKe.out (fun e => by have := HO.out; omega)).cell (j := 22) rfl
      have HOw : Hid (OwV we2 (w.heap.size + 3) (.slice ql l.length cl) l) := ownsRow_keep HX.out.ow HKe.out (fun b hb e => by have := (ownBlock_lt HX.out.ow hb).1; have := HO.out; omega)
      have HSe : Hid (w.heap.size + 3 ≤ we2.heap.size) := Nat.le_trans HX.out.sz HKe.out.size
      have HLg : Hid (Lv we2 g (msgA ⟨z0, z1, z2, z3, z4, z5, z6, z7, z8, bo, cs0⟩ (.slice q n1 cap1) (.slice ql l.length cl) (.slice none 0 0)).toList) := HX.out.lg.keep HKe.out (fun e => by have := HO.out; omega)
      go_wp2_with (first
        | (refine wpList_load_all rfl 72 _ rfl 14 gv (vcell yv.1 yv.2) rfl HLe.out dsVote szVote rfl ?_)
        | (at_builtin; refine wpList_app_vg HOw.out HSe.out yv HY1.out (by have := HLk.out; have := HN.out; omega) rfl _ _ rfl rfl rfl ?_; intro v2 w3 ho2 k3 hb2; obtain ⟨ql2, cl2, rfl, _⟩ := own_fl ho2; have hl3 := HLg.out.keep k3 (fun e => by have := (ownBlock_lt HOw.out e).1; have := HO.out; omega); have c23 : w3.cell? ⟨g, 22, none⟩ = some (.slice ql l.length cl) := hl3.cell (j := 22) rfl; have f23 : w3.frozen? ⟨g, 22, none⟩ = false := hl3.fz (show 22 < 24 by omega)))
      have e9 : (l ++ [yv]).length = l.length + 1 := by simp
      have ho3 : OwV w3 (w.heap.size + 3) (.slice ql2 (l.length + 1) cl2) (l ++ [yv]) := by
        have h9 := ho2
        unfold OwV at h9 ⊢
        rw [e9] at h9 ⊢
        exact h9
      rw [e9] at hb2
      have kz : Kp (fun b => b = g) w3 (w3.setCell ⟨g, 22, none⟩ (.slice ql2 (l.length + 1) cl2)) := by show Kp _ _ _; exact (Kp.refl (fun b => b = g) w3).setCell (fun _ => rfl) _
      have HZr : Hid ((l ++ [yv]).length = k + 1 ∧ Ru Z (w3.setCell ⟨g, 22, none⟩ (.slice ql2 (l.length + 1) cl2)) r (vstO (m12 st) (k + 1)) ∧ XI w (w3.setCell ⟨g, 22, none⟩ (.slice ql2 (l.length + 1) cl2)) g h2 (msgA ⟨z0, z1, z2, z3, z4, z5, z6, z7, z8, bo, cs0⟩ (.slice q n1 cap1) (.slice ql2 (l.length + 1) cl2) (.slice none 0 0)).toList (.slice ql2 (l.length + 1) cl2) (l ++ [yv]) ((vstO (m12 st) (k + 1)).isSome = true) ((m11 st).isSome = true) ((List.range (k + 1)).map (fun i => voOf (vpO (m12 st) i))) q (intsOf (cpX (m10 st)).nodes)) := ⟨by rw [e9, HLk.out], (HRe.out.keep k3 (fun e => by have := (ownBlock_lt HOw.out e).1; have := HO.out; omega) (fun b hb e => by have := (ownBlock_lt HOw.out e).1; have := HZ.out.2.2 b hb; omega)).keep kz (fun e => by have := HO.out; omega) (fun b hb e => HZ.out.1 (e ▸ hb)), by
        rw [List.range_succ, List.map_append]
        exact HX.out.step HO.out HKe.out k3 ho3 hb2 kz (hl3.set1' 22 _ (by show _ < 24; omega)) (fun c => vstO_isSome (Nat.le_succ k) c) (voOf (vpO (m12 st) k)) HYv.out⟩
      clear kz ho3 hb2 ho2 k3 hl3 c23 f23 c22
      go_roundg (N - (k + 1))
      case rel => exact ⟨k + 1, .slice ql2 (l.length + 1) cl2, l ++ [yv], by omega, rfl, by first | rw [HKi.out] | rfl | go_num, HZr⟩
      case measure => omega
    · have hkn : k = N := by omega
      subst hkn
      obtain ⟨ql, cl, rfl, hfl⟩ := own_fl HRr.out.2.2.ow
      have HX : Hid (XI w wr g h2 (msgA ⟨z0, z1, z2, z3, z4, z5, z6, z7, z8, bo, cs0⟩ (.slice q n1 cap1) (.slice ql l.length cl) (.slice none 0 0)).toList (.slice ql l.length cl) l ((m13 st).isSome = true) ((m11 st).isSome = true) ((List.range (mnO st)).map (fun i => voOf (vpO (m12 st) i))) q (intsOf (cpX (m10 st)).nodes)) := by
        show XI _ _ _ _ _ _ _ _ _ _ _ _
        unfold m13
        rw [← HN.out.1]
        exact HRr.out.2.2
      have HRw : Hid (Ru Z wr r (m13 st)) := by
        show Ru _ _ _ _
        unfold m13
        rw [← HN.out.1]
        exact HRr.out.2.1
      have HFl : Hid (Fl wr (fun b => w.heap.size + 3 ≤ b ∧ b < wr.heap.size) ql (vflat l) ∧ l.length ≤ 1000) := ⟨hfl, by have := HRr.out.1; have := HN.out.2; omega⟩
      have HB13 : Hid (Byt (m13 st)) := HB12.out.vst (mnO st)
      clear HRr hfl HX0
      go_upto_region 16 with fail
      refine xmb_region (fun m z => match m with | 0 => Ru Z z r (m13 st) | 1 => Ru Z z r (m14 st) | _ => Ru Z z r (m15 st)) r g (mbO st) (tkB (mbO st) (m14 st)) (msgA ⟨z0, z1, z2, z3, z4, z5, z6, z7, z8, bo, cs0⟩ (.slice q n1 cap1) (.slice ql l.length cl) (.slice none 0 0)).toList (.pointer (some ⟨h2, 0, none⟩)) (by kernel_rfl) rfl ⟨rfl, rfl, rfl, rfl⟩ ⟨fun m u1 u2 ku hu => ?_, fun u1 hu => ?_, fun u1 hu => ?_, ?_, ?_, ?_, ?_, (by show _ < 24; decide), rfl⟩ HRw.out HX.out.lg ?_
      · match m, hu with
        | 0, hu => exact Ru.keep hu ku (fun e => by have := HO.out; omega) (fun b hb e => HZ.out.1 (e ▸ hb))
        | 1, hu => exact Ru.keep hu ku (fun e => by have := HO.out; omega) (fun b hb e => HZ.out.1 (e ▸ hb))
        | _ + 2, hu => exact Ru.keep hu ku (fun e => by have := HO.out; omega) (fun b hb e => HZ.out.1 (e ▸ hb))
      · refine (rlist2 r 2000 (m13 st) u1 hu (by decide) HB13.out).mono ?_
        rintro e9 u2 ⟨he, h1, k1⟩
        exact ⟨k1, he, h1⟩
      · refine (rtake2 r (mbO st) (m14 st) u1 hu).mono ?_
        rintro e9 u2 ⟨⟨qt2, mt2, ct2, he, _, h1, h2', h3⟩, k1⟩
        exact ⟨k1, Or.inl ⟨_, he, ⟨qt2, mt2, ct2, rfl, h1, fun a ha hp => ⟨(h3 a ha hp).1, fun e => HZ.out.1 (e ▸ (h3 a ha hp).2)⟩⟩, h2'⟩⟩
      · show r < wr.heap.size
        have := HO.out; have := HX.out.sz; omega
      · show g < wr.heap.size
        have := HO.out; have := HX.out.sz; omega
      · have := HO.out; omega
      · have := tkB_len (n := mbO st) (st := m14 st)
        have : mbO st ≤ 2000 := vlO_le _ _
        omega
      · intro q80 q81 q82 q83 q84 q85 q86 q87 wz vb kz hp ho hl
        simp only [Act.put, List.setIfInBounds_toArray, List.set_cons_succ, List.set_cons_zero]
        obtain ⟨qb, cb, rfl, hfb⟩ := own_fl ho
        have HRz : Hid (Ru Z wz r (m15 st)) := hp
        have HLz : Hid (Lv wz g (msgA ⟨z0, z1, z2, z3, z4, z5, z6, z7, z8, bo, cs0⟩ (.slice q n1 cap1) (.slice ql l.length cl) (.slice qb (tkB (mbO st) (m14 st)).length cb)).toList) := hl
        have HLhz : Hid (Lv wz h2 zeroM.toList) := HX.out.lh.keep kz (fun e => by have := HO.out; omega)
        have HKz : Hid (Kp (fun _ => False) w wz) := HX.out.kp.trans kz (fun b hb e => by have := HO.out; omega)
        have HSz : Hid (w.heap.size + 3 ≤ wz.heap.size) := Nat.le_trans HX.out.sz kz.size
        have HMr : Hid ((m15 st).isSome = true → Mr wz (fun b => w.heap.size + 3 ≤ b ∧ b < wz.heap.size) (msOf (mpO st)) (.agg (msgA ⟨z0, z1, z2, z3, z4, z5, z6, z7, z8, bo, cs0⟩ (.slice q n1 cap1) (.slice ql l.length cl) (.slice qb (tkB (mbO st) (m14 st)).length cb)))) := fun c15 => by
          have c14 : (m14 st).isSome = true := takeO_isSome c15
          have c13 : (m13 st).isSome = true := nxtO_isSome (most := 2000) c14
          have c12 : (m12 st).isSome = true := vstO_isSome (st := m12 st) (i := 0) (j := mnO st) (Nat.zero_le _) c13
          have c11 : (m11 st).isSome = true := nxtO_isSome (most := 1000) c12
          have c10 : (m10 st).isSome = true := cxO_isSome c11
          have c9 : (itO st 9).isSome = true := trO_isSome c10
          obtain ⟨a1, a2⟩ := HCc.out c11
          obtain ⟨a3, a4⟩ := HX.out.vn c13
          have hk : ∀ b, w.heap.size + 3 ≤ b ∧ b < wr.heap.size → ¬ (b = r ∨ b = g) := fun b hb e => by have := HO.out; omega
          have hk2 : ∀ b, w.heap.size + 3 ≤ b ∧ b < wr.heap.size ∧ (Value.slice ql l.length cl).ownBlock ≠ some b → ¬ (b = r ∨ b = g) := fun b hb e => by have := HO.out; omega
          have hm : ∀ b, w.heap.size + 3 ≤ b ∧ b < wr.heap.size → w.heap.size + 3 ≤ b ∧ b < wz.heap.size := fun b hb => ⟨hb.1, Nat.lt_of_lt_of_le hb.2 kz.size⟩
          have hm2 : ∀ b, w.heap.size + 3 ≤ b ∧ b < wr.heap.size ∧ (Value.slice ql l.length cl).ownBlock ≠ some b → w.heap.size + 3 ≤ b ∧ b < wz.heap.size := fun b hb => ⟨hb.1, Nat.lt_of_lt_of_le hb.2.1 kz.size⟩
          have hfit := cpX_fit (st := m10 st) ((HB.out.it 9).tr) c11
          refine ⟨q, cap1, ql, cl, l, qb, cb, ?_, ((HX.out.fl c11).keep kz hk2).mono hm2, ?_, ?_, ((HFl.out.1).keep kz hk).mono hm, (a4.keep kz hk2).mono hm2, ?_, hfb.mono (fun b hb => ⟨Nat.le_trans HX.out.sz hb.1, hb.2⟩), tkB_byte (HB13.out.nxt 2000), ?_⟩
          · rw [Hz0.out (itO_isSome (i := 1) (j := 9) (by decide) c9), Hz1.out (itO_isSome (i := 2) (j := 9) (by decide) c9), Hz2.out (itO_isSome (i := 3) (j := 9) (by decide) c9), Hz3.out (itO_isSome (i := 4) (j := 9) (by decide) c9), Hz4.out (itO_isSome (i := 5) (j := 9) (by decide) c9), Hz5.out (itO_isSome (i := 6) (j := 9) (by decide) c9), Hz6.out (itO_isSome (i := 7) (j := 9) (by decide) c9), Hz7.out (itO_isSome (i := 8) (j := 9) (by decide) c9), Hz8.out (itO_isSome (i := 9) (j := 9) (by decide) c9), HBo.out c10, a1, a2]
            show Value.agg _ = Value.agg (msgA _ (.slice q (intsOf (cpX (m10 st)).nodes).length cap1) _ _)
            rw [intsOf_len]
            rfl
          · show (intsOf (cpX (m10 st)).nodes).length * 8 ≤ _
            rw [intsOf_len]
            have := hfit.l
            omega
          · rw [a3]
            show _ = ((List.range (mnO st)).map (vpO (m12 st))).map voOf
            rw [List.map_map]
            rfl
          · have := HFl.out.2
            omega
          · have h1 := tkB_len (n := mbO st) (st := m14 st)
            have h2 : mbO st ≤ 2000 := vlO_le _ _
            show (tkB (mbO st) (m14 st)).length ≤ _
            omega
        have HOm : Hid (((msgA ⟨z0, z1, z2, z3, z4, z5, z6, z7, z8, bo, cs0⟩ (.slice q n1 cap1) (.slice ql l.length cl) (.slice qb (tkB (mbO st) (m14 st)).length cb))).toList.toArray.all (·.oneCell') = true) := msg_one _ rfl rfl rfl
        clear hp ho hl kz hfb HX HRw HFl HCc Hz0 Hz1 Hz2 Hz3 Hz4 Hz5 Hz6 Hz7 Hz8 HBo
        obtain ⟨xa, hxa⟩ : ∃ xa : Array Value, xa = (msgA ⟨z0, z1, z2, z3, z4, z5, z6, z7, z8, bo, cs0⟩ (.slice q n1 cap1) (.slice ql l.length cl) (.slice qb (tkB (mbO st) (m14 st)).length cb)) := ⟨_, rfl⟩
        have HXl : Hid (xa.toList.length = 24) := by rw [hxa]; exact rfl
        rw [← hxa] at HMr HOm HLz
        have HXa : Hid (xa.toList.toArray.all (·.oneCell') = true) := HOm.out
        clear hxa HOm
        have hbz : wz.cell? ⟨r, 1, none⟩ = some (.bool (m15 st).isNone) := HRz.out.b
        obtain ⟨dC, hdC, hdR⟩ := dsMsg
        cases hq : m15 st with
        | none =>
          have HOk : Hid (okM xs = none) := okM_bad (by rw [← HSt.out, hq]; simp)
          have hb3 : wz.cell? ⟨r, 1, none⟩ = some (.bool true) := by rw [hbz, hq]; rfl
          clear hbz hq
          go_wp2_with (refine wpList_store_all rfl 40 _ _ rfl 24 h2 zeroM.toList zeroM.toList rfl rfl HLhz.out szMsg rfl rfl zeroM_one ?_; intro w4 hl4 k4)
          refine bodyPost_ret (res_cell_tmp Tryd.results17 _ _ h2 _ rfl (hl4.load ⟨dC, hdC, hdR⟩ szMsg rfl)) rfl ?_
          refine ⟨?_, HKz.out.trans k4 (fun b hb e => by have := HO.out; omega)⟩
          unfold MtRes
          rw [HOk.out]
          rfl
        | some t =>
          have hb3 : wz.cell? ⟨r, 1, none⟩ = some (.bool false) := by rw [hbz, hq]; rfl
          obtain ⟨⟨qc, mc, cc, h1, _, _, _, h5⟩, _, _⟩ := HRz.out
          have hm := (h5 t hq).1.len
          clear hbz h5
          cases t with
          | cons y t =>
            have hm0 : (0 : Int) < (mc : Int) := by rw [List.length_cons] at hm; omega
            have HOk : Hid (okM xs = none) := okM_bad (by rw [← HSt.out, hq]; simp)
            clear hm hq
            go_wp2_with (refine wpList_store_all rfl 40 _ _ rfl 24 h2 zeroM.toList zeroM.toList rfl rfl HLhz.out szMsg rfl rfl zeroM_one ?_; intro w4 hl4 k4)
            refine bodyPost_ret (res_cell_tmp Tryd.results17 _ _ h2 _ rfl (hl4.load ⟨dC, hdC, hdR⟩ szMsg rfl)) rfl ?_
            refine ⟨?_, HKz.out.trans k4 (fun b hb e => by have := HO.out; omega)⟩
            unfold MtRes
            rw [HOk.out]
            rfl
          | nil =>
            have hm0 : mc = 0 := hm.symm
            subst hm0
            have HF : Hid (Mr wz (fun b => w.heap.size + 3 ≤ b ∧ b < wz.heap.size) (msOf (mpO st)) (.agg xa)) := HMr.out (by rw [hq]; rfl)
            have HOk : Hid (okM xs = if mayM (msOf (mpO st)) = true then some (mpO st) else none) := by
              show _ = _
              rw [HSt.out]
              exact okM_good (by rw [← HSt.out, hq])
            have HFit : Hid ((mpO st).fit) := by
              obtain ⟨ys, e1, e2⟩ := m15_some hq
              exact (rdMsg_back (HB.out ys e1) e2).2.1
            have HMay : Hid (Calls Tryd.prog 22 #[.agg xa] wz fun e w' => e = .returned (.bool (mayM (msOf (mpO st)))) ∧ Kp (fun _ => False) wz w') := xmayMsg_ok _ (msOf (mpO st)) (.agg xa) wz HF.out (good_msOf HFit.out)
            clear hm hq HMr
            go_wp2_with (refine wpList_ldw (by first | rfl | go_simp) 40 _ rfl g rfl xa.toList dC HLz.out hdC hdR (by rw [szMsg, HXl.out]) ?_; rw [Array.toArray_toList])
            refine HMay.out.mono ?_
            rintro e9 w3 ⟨rfl, k3⟩
            have HL3 : Hid (Lv w3 g xa.toList) := HLz.out.keep k3 id
            have HLh3 : Hid (Lv w3 h2 zeroM.toList) := HLhz.out.keep k3 id
            have HF3 : Hid (Mr w3 (fun b => w.heap.size + 3 ≤ b ∧ b < wz.heap.size) (msOf (mpO st)) (.agg xa)) := HF.out.keep k3 (fun _ _ => id)
            have HK3 : Hid (Kp (fun _ => False) w w3) := HKz.out.trans k3 (fun _ _ e => e)
            have HZ3 : Hid (wz.heap.size ≤ w3.heap.size) := k3.size
            clear k3 HMay
            cases hM : mayM (msOf (mpO st)) with
            | false =>
              have HOk2 : Hid (okM xs = none) := by show _ = _; rw [HOk.out, if_neg]; rw [hM]; decide
              clear hM
              go_wp2_with (refine wpList_store_all rfl 40 _ _ rfl 24 h2 zeroM.toList zeroM.toList rfl rfl HLh3.out szMsg rfl rfl zeroM_one ?_; intro w4 hl4 k4)
              refine bodyPost_ret (res_cell_tmp Tryd.results17 _ _ h2 _ rfl (hl4.load ⟨dC, hdC, hdR⟩ szMsg rfl)) rfl ?_
              refine ⟨?_, HK3.out.trans k4 (fun b hb e => by have := HO.out; omega)⟩
              unfold MtRes
              rw [HOk2.out]
              rfl
            | true =>
              have HOk2 : Hid (okM xs = some (mpO st)) := by show _ = _; rw [HOk.out, if_pos hM]
              clear hM
              go_wp2_with (first
                | (refine wpList_load_all rfl 40 _ rfl 24 g xa.toList rfl HL3.out ⟨dC, hdC, hdR⟩ szMsg HXl.out ?_)
                | (refine wpList_store_all rfl 40 _ _ rfl 24 h2 zeroM.toList xa.toList rfl rfl HLh3.out szMsg rfl HXl.out HXa.out ?_; intro w4 hl4 k4))
              refine bodyPost_ret (res_cell_tmp Tryd.results17 _ _ h2 _ rfl (hl4.load ⟨dC, hdC, hdR⟩ szMsg HXl.out)) rfl ?_
              refine ⟨?_, HK3.out.trans k4 (fun b hb e => by have := HO.out; omega)⟩
              unfold MtRes
              rw [HOk2.out]
              refine ⟨_, rfl, ?_⟩
              rw [Array.toArray_toList]
              exact (HF3.out.keep k4 (fun b hb e => by have := HO.out; omega)).mono (fun b hb => ⟨by have := HO.out; omega, by have := HZ3.out; have := k4.size; omega⟩)
end Go.Proofs.YtoepemgflbmlcaaDoor
