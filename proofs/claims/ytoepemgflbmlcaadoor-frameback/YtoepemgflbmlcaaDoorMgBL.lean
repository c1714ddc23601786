/- Texts of this proof, joined: Oa5, Oa6. -/
import Derived.Test.YtoepemgflbmlcaaDoorMgBI
import Derived.Test.YtoepemgflbmlcaaDoorMgBJ
import Derived.Test.YtoepemgflbmlcaaDoorMgBK
import Derived.Test.YtoepemgflbmlcaaDoorMgAW
import Derived.Test.YtoepemgflbmlcaaDoorMgBE
/- msgReader.msg (laid by scripts/mkoa5.py). -/
namespace Go.Proofs.YtoepemgflbmlcaaDoor
set_option linter.unusedVariables false
set_option linter.unusedSimpArgs false
open Go.RowKit Go.Deep

/-- a message as the program has it -/
def msOf (m : Mp) : Ms := ⟨⟨m.kind, m.src, m.dst, m.ballot, m.slot, m.blob, m.index, m.epoch, m.id, m.ok, csOf m.c⟩, intsOf m.c.nodes, m.votes.map voOf, m.bytes⟩
theorem rdVotes_snoc : ∀ (k : Nat) (xs t u : List Nat) (l : List Vp) (v : Vp), rdVotes k xs = some (l, t) → rdVote t = some (v, u) → rdVotes (k + 1) xs = some (l ++ [v], u)
  | 0, xs, t, u, l, v, h1, h2 => by
    injection h1 with h1
    injection h1 with e1 e2
    subst e1 e2
    show (rdVote xs).bind _ = _
    rw [h2]
    rfl
  | k + 1, xs, t, u, l, v, h1, h2 => by
    unfold rdVotes at h1
    obtain ⟨⟨x, t1⟩, h3, h1⟩ := Option.bind_eq_some_iff.1 h1
    obtain ⟨⟨m, t2⟩, h4, h1⟩ := Option.bind_eq_some_iff.1 h1
    dsimp only at h4 h1
    injection h1 with h1
    injection h1 with e1 e2
    subst e1 e2
    have := rdVotes_snoc k t1 t2 u m v h4 h2
    show (rdVote xs).bind _ = _
    rw [h3]
    show (rdVotes (k + 1) t1).bind _ = _
    rw [this]
    rfl
theorem rdVotes_stop : ∀ (k d : Nat) (xs t : List Nat) (l : List Vp), rdVotes k xs = some (l, t) → rdVote t = none → rdVotes (k + 1 + d) xs = none
  | 0, d, xs, t, l, h1, h2 => by
    injection h1 with h1
    injection h1 with e1 e2
    subst e1 e2
    rw [show 0 + 1 + d = d + 1 by omega]
    show (rdVote xs).bind _ = _
    rw [h2]
    rfl
  | k + 1, d, xs, t, l, h1, h2 => by
    unfold rdVotes at h1
    obtain ⟨⟨x, t1⟩, h3, h1⟩ := Option.bind_eq_some_iff.1 h1
    obtain ⟨⟨m, t2⟩, h4, h1⟩ := Option.bind_eq_some_iff.1 h1
    dsimp only at h4 h1
    injection h1 with h1
    injection h1 with e1 e2
    subst e1 e2
    have := rdVotes_stop k d t1 t2 m h4 h2
    rw [show k + 1 + 1 + d = (k + 1 + d) + 1 by omega]
    show (rdVote xs).bind _ = _
    rw [h3]
    show (rdVotes (k + 1 + d) t1).bind _ = _
    rw [this]
    rfl
section
variable {xs t1 t2 t3 t4 t5 t6 s : List Nat} {b : Bool} {c : Cp} {n : Nat} {vs : List Vp}
theorem rdMsg_yes (h1 : seqN xs 9 = some t1) (h2 : rdTruth t1 = some (b, t2)) (h3 : rdCmd t2 = some (c, t3)) (h4 : rdNum 1000 t3 = some (n, t4)) (h5 : rdVotes n t4 = some (vs, t5)) (h6 : rdText 2000 t5 = some (s, t6)) :
    rdMsg xs = some (⟨seqV xs 0, seqV xs 1, seqV xs 2, seqV xs 3, seqV xs 4, seqV xs 5, seqV xs 6, seqV xs 7, seqV xs 8, b, c, vs, s⟩, t6) := by
  unfold rdMsg
  rw [seqN_nums 9 xs t1 h1]
  show (rdTruth t1).bind _ = _
  rw [h2]
  show (rdCmd t2).bind _ = _
  rw [h3]
  show (rdNum 1000 t3).bind _ = _
  rw [h4]
  show (rdVotes n t4).bind _ = _
  rw [h5]
  show (rdText 2000 t5).bind _ = _
  rw [h6]
  rfl
theorem rdMsg_no1 (h1 : seqN xs 9 = none) : rdMsg xs = none := by
  unfold rdMsg
  rw [nums_seqN 9 xs h1]
  rfl
theorem rdMsg_no2 (h1 : seqN xs 9 = some t1) (h2 : rdTruth t1 = none) : rdMsg xs = none := by
  unfold rdMsg
  rw [seqN_nums 9 xs t1 h1]
  show (rdTruth t1).bind _ = _
  rw [h2]
  rfl
theorem rdMsg_no3 (h1 : seqN xs 9 = some t1) (h2 : rdTruth t1 = some (b, t2)) (h3 : rdCmd t2 = none) : rdMsg xs = none := by
  unfold rdMsg
  rw [seqN_nums 9 xs t1 h1]
  show (rdTruth t1).bind _ = _
  rw [h2]
  show (rdCmd t2).bind _ = _
  rw [h3]
  rfl
theorem rdMsg_no4 (h1 : seqN xs 9 = some t1) (h2 : rdTruth t1 = some (b, t2)) (h3 : rdCmd t2 = some (c, t3)) (h4 : rdNum 1000 t3 = none) : rdMsg xs = none := by
  unfold rdMsg
  rw [seqN_nums 9 xs t1 h1]
  show (rdTruth t1).bind _ = _
  rw [h2]
  show (rdCmd t2).bind _ = _
  rw [h3]
  show (rdNum 1000 t3).bind _ = _
  rw [h4]
  rfl
theorem rdMsg_no5 (h1 : seqN xs 9 = some t1) (h2 : rdTruth t1 = some (b, t2)) (h3 : rdCmd t2 = some (c, t3)) (h4 : rdNum 1000 t3 = some (n, t4)) (h5 : rdVotes n t4 = none) : rdMsg xs = none := by
  unfold rdMsg
  rw [seqN_nums 9 xs t1 h1]
  show (rdTruth t1).bind _ = _
  rw [h2]
  show (rdCmd t2).bind _ = _
  rw [h3]
  show (rdNum 1000 t3).bind _ = _
  rw [h4]
  show (rdVotes n t4).bind _ = _
  rw [h5]
  rfl
theorem rdMsg_no6 (h1 : seqN xs 9 = some t1) (h2 : rdTruth t1 = some (b, t2)) (h3 : rdCmd t2 = some (c, t3)) (h4 : rdNum 1000 t3 = some (n, t4)) (h5 : rdVotes n t4 = some (vs, t5)) (h6 : rdText 2000 t5 = none) : rdMsg xs = none := by
  unfold rdMsg
  rw [seqN_nums 9 xs t1 h1]
  show (rdTruth t1).bind _ = _
  rw [h2]
  show (rdCmd t2).bind _ = _
  rw [h3]
  show (rdNum 1000 t3).bind _ = _
  rw [h4]
  show (rdVotes n t4).bind _ = _
  rw [h5]
  show (rdText 2000 t5).bind _ = _
  rw [h6]
  rfl
end
/-- what msgReader.msg answers -/
def MsRes (Z : Nat → Prop) (r : Nat) (xs : List Nat) (w : World) (e : Ending) (w' : World) : Prop := match rdMsg xs with
  | some (m, t) => ∃ v, e = .returned v ∧ Mr w' (fun b => w.heap.size ≤ b ∧ b < w'.heap.size) (msOf m) v ∧ Cu Z w' r t
  | none => e = .panicked gaveUp
theorem intsOf_len (ns : List Nat) : (intsOf ns).length = ns.length := by unfold intsOf; rw [List.length_map]

set_option maxRecDepth 100000 in
set_option maxHeartbeats 12800000 in
theorem rmsg_ok {Z : Nat → Prop} (r : Nat) (xs : List Nat) (w : World) (h : Cu Z w r xs) (hb : ∀ x ∈ xs, x < 256) (hZ : ∀ b, Z b → b < w.heap.size) : Calls Tryd.prog 43 #[.pointer (some ⟨r, 0, none⟩)] w fun e w' => MsRes Z r xs w e w' ∧ Kp (fun b => b = r) w w' := by
  have hr : r < w.heap.size := by
    obtain ⟨q, m, c, h1, _⟩ := h
    exact World.block_lt_of_cell? _ _ h1
  obtain ⟨h2, hh2⟩ : ∃ x, x = w.heap.size := ⟨_, rfl⟩
  obtain ⟨g, hg⟩ : ∃ x, x = w.heap.size + 1 := ⟨_, rfl⟩
  obtain ⟨u, hu⟩ : ∃ x, x = (w.alloc (.cells zeroM 40)).alloc (.cells zeroM 40) := ⟨_, rfl⟩
  have z1 : (w.alloc (.cells zeroM 40)).heap.size = w.heap.size + 1 := by simp
  have z2 : u.heap.size = w.heap.size + 2 := by rw [hu]; simp
  have k0 : Kp (fun _ => False) w u := by rw [hu]; exact ((Kp.refl _ _).alloc _).alloc _
  have HLh : Hid (Lv u h2 zeroM.toList) := by rw [hu, hh2]; exact (Lv.new w _ _).keep ((Kp.refl (fun _ => False) _).alloc _) id
  have HLg : Hid (Lv u g zeroM.toList) := by rw [hu, hg, ← z1]; exact Lv.new _ _ _
  have HC0 : Hid (Cu Z u r xs) := h.keep k0 id (fun _ _ => id)
  have HK0 : Hid (Kp (fun b => b = r) w u) := k0.mono (fun _ _ e => e.elim)
  have HB : Hid (∀ x ∈ xs, x < 256) := hb
  have HZ : Hid (¬ Z g ∧ ¬ Z h2 ∧ ∀ b, Z b → b < h2) := ⟨fun e => by have := hZ _ e; omega, fun e => by have := hZ _ e; omega, fun b e => by have := hZ _ e; omega⟩
  have HO : Hid (r < h2 ∧ h2 = w.heap.size ∧ g = h2 + 1 ∧ u.heap.size = g + 1 ∧ r ≠ g ∧ h2 ≠ r ∧ h2 ≠ g) := by show _ ∧ _; omega
  have HT : Hid (∀ u1 u2, Kp (fun b => b = r) w u1 → Kp (fun b => b = r ∨ b = g) u1 u2 → Kp (fun b => b = r) w u2) := fun u1 u2 a b => a.trans b (fun c hc e => by
    have := HO.out
    rcases e with e | e
    · exact e
    · omega)
  have HPan : Hid (∀ (a : Act) (w' : World), a.defers = [] → rdMsg xs = none → Kp (fun b => b = r) w w' → bodyPost Tryd.prog Tryd.f43 (fun e w' => MsRes Z r xs w e w' ∧ Kp (fun b => b = r) w w') (.panic gaveUp) a w') := fun a w' hd hn k => ⟨hd, by unfold MsRes; rw [hn], k⟩
  have hu' : (w.alloc (.cells #[.int .i64 0, .int .i64 0, .int .i64 0, .int .i64 0, .int .i64 0, .int .i64 0, .int .i64 0, .int .i64 0, .int .i64 0, .bool false, .int .i64 0, .int .i64 0, .string ⟨#[]⟩, .int .i64 0, .int .i64 0, .int .i64 0, .int .i64 0, .int .i64 0, .int .u32 0, .int .i64 0, .int .i64 0, .slice none 0 0, .slice none 0 0, .slice none 0 0] 40)).alloc (.cells #[.int .i64 0, .int .i64 0, .int .i64 0, .int .i64 0, .int .i64 0, .int .i64 0, .int .i64 0, .int .i64 0, .int .i64 0, .bool false, .int .i64 0, .int .i64 0, .string ⟨#[]⟩, .int .i64 0, .int .i64 0, .int .i64 0, .int .i64 0, .int .i64 0, .int .u32 0, .int .i64 0, .int .i64 0, .slice none 0 0, .slice none 0 0, .slice none 0 0] 40) = u := hu.symm
  clear h hb hZ hr hu z1 z2 k0
  go_enter Tryd.func43, Tryd.ntmps43
  go_upto_region 2 with fail
  rw [← hg, ← hh2]
  clear hu' hg hh2
  refine rm2_region Z r g xs zeroM.toList (.pointer (some ⟨h2, 0, none⟩)) (by kernel_rfl) rfl ⟨rfl, rfl, rfl, rfl⟩ HB.out HO.out.2.2.2.2.1 HZ.out.1 (by show _ ≤ 24; decide) HC0.out HLg.out ?_ ?_
  · exact fun a w1 hB1 k1 hs1 => HPan.out a w1 hB1.2.2.2 (rdMsg_no1 (seqN_none hs1 (by decide))) (HT.out _ _ HK0.out k1)
  intro q4 q5 q6 q7 q8 q9 q10 q11 q12 q13 q14 q15 q16 q17 q18 q19 q20 q21 w1 t1 k1 s1 c1 l1
  simp only [Act.put, List.setIfInBounds_toArray, List.set_cons_succ, List.set_cons_zero]
  have HL1 : Hid (Lv w1 g (msgA ⟨(seqV xs 0 : Int), (seqV xs 1 : Int), (seqV xs 2 : Int), 0, 0, 0, 0, 0, 0, false, ⟨0, 0, ⟨#[]⟩, 0, 0, 0, 0, 0, 0, 0, 0⟩⟩ (.slice none 0 0) (.slice none 0 0) (.slice none 0 0)).toList) := l1
  have HLh1 : Hid (Lv w1 h2 zeroM.toList) := HLh.out.keep k1 (fun e => by have := HO.out; omega)
  have HC1 : Hid (Cu Z w1 r t1) := c1
  have HS1 : Hid (seqN xs 3 = some t1) := s1
  have HB1 : Hid (∀ x ∈ t1, x < 256) := seqN_byte (HB.out) 3 t1 s1
  have HK1 : Hid (Kp (fun b => b = r) w w1) := HT.out _ _ HK0.out k1
  clear l1 k1 c1 s1
  go_upto_region 3 with fail
  refine rm3_region Z r g t1 (msgA ⟨(seqV xs 0 : Int), (seqV xs 1 : Int), (seqV xs 2 : Int), 0, 0, 0, 0, 0, 0, false, ⟨0, 0, ⟨#[]⟩, 0, 0, 0, 0, 0, 0, 0, 0⟩⟩ (.slice none 0 0) (.slice none 0 0) (.slice none 0 0)).toList (.pointer (some ⟨h2, 0, none⟩)) (by kernel_rfl) rfl ⟨rfl, rfl, rfl, rfl⟩ HB1.out HO.out.2.2.2.2.1 HZ.out.1 (by show _ ≤ 24; decide) HC1.out HL1.out ?_ ?_
  · exact fun a w1 hB1 k1 hs1 => HPan.out a w1 hB1.2.2.2 (rdMsg_no1 (seqN_none ((seqN_add HS1.out 2).trans hs1) (by decide))) (HT.out _ _ HK1.out k1)
  intro q22 q23 q24 q25 q26 q27 q28 q29 q30 q31 q32 q33 w2 t2 k1 s1 c1 l1
  simp only [Act.put, List.setIfInBounds_toArray, List.set_cons_succ, List.set_cons_zero]
  have HL2 : Hid (Lv w2 g (msgA ⟨(seqV xs 0 : Int), (seqV xs 1 : Int), (seqV xs 2 : Int), (seqV t1 0 : Int), (seqV t1 1 : Int), 0, 0, 0, 0, false, ⟨0, 0, ⟨#[]⟩, 0, 0, 0, 0, 0, 0, 0, 0⟩⟩ (.slice none 0 0) (.slice none 0 0) (.slice none 0 0)).toList) := l1
  have HLh2 : Hid (Lv w2 h2 zeroM.toList) := HLh1.out.keep k1 (fun e => by have := HO.out; omega)
  have HC2 : Hid (Cu Z w2 r t2) := c1
  have HS2 : Hid (seqN t1 2 = some t2) := s1
  have HB2 : Hid (∀ x ∈ t2, x < 256) := seqN_byte (HB1.out) 2 t2 s1
  have HK2 : Hid (Kp (fun b => b = r) w w2) := HT.out _ _ HK1.out k1
  clear l1 k1 c1 s1
  have HS5 : Hid (seqN xs 5 = some t2) := (seqN_add HS1.out 2).trans HS2.out
  go_upto_region 4 with fail
  refine rm4_region Z r g t2 (msgA ⟨(seqV xs 0 : Int), (seqV xs 1 : Int), (seqV xs 2 : Int), (seqV t1 0 : Int), (seqV t1 1 : Int), 0, 0, 0, 0, false, ⟨0, 0, ⟨#[]⟩, 0, 0, 0, 0, 0, 0, 0, 0⟩⟩ (.slice none 0 0) (.slice none 0 0) (.slice none 0 0)).toList (.pointer (some ⟨h2, 0, none⟩)) (by kernel_rfl) rfl ⟨rfl, rfl, rfl, rfl⟩ HB2.out HO.out.2.2.2.2.1 HZ.out.1 (by show _ ≤ 24; decide) HC2.out HL2.out ?_ ?_
  · exact fun a w1 hB1 k1 hs1 => HPan.out a w1 hB1.2.2.2 (rdMsg_no1 ((seqN_add HS5.out 4).trans hs1)) (HT.out _ _ HK2.out k1)
  intro q34 q35 q36 q37 q38 q39 q40 q41 q42 q43 q44 q45 q46 q47 q48 q49 q50 q51 q52 q53 q54 q55 q56 q57 w3 t3 k1 s1 c1 l1
  simp only [Act.put, List.setIfInBounds_toArray, List.set_cons_succ, List.set_cons_zero]
  have HL3 : Hid (Lv w3 g (msgA ⟨(seqV xs 0 : Int), (seqV xs 1 : Int), (seqV xs 2 : Int), (seqV t1 0 : Int), (seqV t1 1 : Int), (seqV t2 0 : Int), (seqV t2 1 : Int), (seqV t2 2 : Int), (seqV t2 3 : Int), false, ⟨0, 0, ⟨#[]⟩, 0, 0, 0, 0, 0, 0, 0, 0⟩⟩ (.slice none 0 0) (.slice none 0 0) (.slice none 0 0)).toList) := l1
  have HLh3 : Hid (Lv w3 h2 zeroM.toList) := HLh2.out.keep k1 (fun e => by have := HO.out; omega)
  have HC3 : Hid (Cu Z w3 r t3) := c1
  have HS3 : Hid (seqN t2 4 = some t3) := s1
  have HB3 : Hid (∀ x ∈ t3, x < 256) := seqN_byte (HB2.out) 4 t3 s1
  have HK3 : Hid (Kp (fun b => b = r) w w3) := HT.out _ _ HK2.out k1
  clear l1 k1 c1 s1
  have HS9 : Hid (seqN xs 9 = some t3) := (seqN_add HS5.out 4).trans HS3.out
  have H5 : Hid (Calls _ _ _ w3 _) := truth_ok r t3 w3 HC3.out HB3.out
  go_wp2_with fail
  refine H5.out.mono ?_
  rintro e9 w4 ⟨hu, k9⟩
  unfold TrRes at hu
  have HK4 : Hid (Kp (fun b => b = r) w w4) := HK3.out.trans k9 (fun _ _ e => e)
  have HL4 : Hid (Lv w4 g (msgA ⟨(seqV xs 0 : Int), (seqV xs 1 : Int), (seqV xs 2 : Int), (seqV t1 0 : Int), (seqV t1 1 : Int), (seqV t2 0 : Int), (seqV t2 1 : Int), (seqV t2 2 : Int), (seqV t2 3 : Int), false, ⟨0, 0, ⟨#[]⟩, 0, 0, 0, 0, 0, 0, 0, 0⟩⟩ (.slice none 0 0) (.slice none 0 0) (.slice none 0 0)).toList) := HL3.out.keep k9 (fun e => by have := HO.out; omega)
  have HLh4 : Hid (Lv w4 h2 zeroM.toList) := HLh3.out.keep k9 (fun e => by have := HO.out; omega)
  clear k9 H5
  cases hq : rdTruth t3 with
  | none =>
    rw [hq] at hu
    have he : e9 = .panicked gaveUp := hu
    subst he
    exact HPan.out _ _ rfl (rdMsg_no2 HS9.out hq) HK4.out
  | some p =>
  obtain ⟨bo, t4⟩ := p
  rw [hq] at hu
  obtain ⟨he, hc⟩ := hu
  subst he
  have HSt : Hid (rdTruth t3 = some (bo, t4)) := hq
  have HC4 : Hid (Cu Z w4 r t4) := hc
  have HB4 : Hid (∀ x ∈ t4, x < 256) := (rdTruth_back HB3.out hq).2
  clear hc hq
  have c9 : w4.cell? ⟨g, 9, none⟩ = some (.bool false) := HL4.out.cell (j := 9) rfl
  have f9 : w4.frozen? ⟨g, 9, none⟩ = false := HL4.out.fz (show 9 < 24 by omega)
  go_upto_region 6 with fail
  clear c9 f9
  obtain ⟨w5, hw5⟩ : ∃ x, x = w4.setCell ⟨g, 9, none⟩ (.bool bo) := ⟨_, rfl⟩
  have ks5g : Kp (fun b => b = g) w4 w5 := by rw [hw5]; show Kp _ _ _; exact (Kp.refl (fun b => b = g) w4).setCell (fun _ => rfl) _
  have HK5 : Hid (Kp (fun b => b = r) w w5) := HT.out _ _ HK4.out (ks5g.mono (fun _ _ e => Or.inr e))
  have HL5 : Hid (Lv w5 g (msgA ⟨(seqV xs 0 : Int), (seqV xs 1 : Int), (seqV xs 2 : Int), (seqV t1 0 : Int), (seqV t1 1 : Int), (seqV t2 0 : Int), (seqV t2 1 : Int), (seqV t2 2 : Int), (seqV t2 3 : Int), bo, ⟨0, 0, ⟨#[]⟩, 0, 0, 0, 0, 0, 0, 0, 0⟩⟩ (.slice none 0 0) (.slice none 0 0) (.slice none 0 0)).toList) := by rw [hw5]; exact HL4.out.set1' 9 _ (show 9 < 24 by omega)
  have HLh5 : Hid (Lv w5 h2 zeroM.toList) := HLh4.out.keep ks5g (fun e => by have := HO.out; omega)
  have HC5 : Hid (Cu Z w5 r t4) := HC4.out.keep ks5g (HO.out.2.2.2.2.1) (fun b hb e => HZ.out.1 (e ▸ hb))
  rw [← hw5]
  clear ks5g hw5
  have HU5 : Hid (g + 1 ≤ w5.heap.size) := by
    have h1 := HL5.out.lt (by show 0 < 24; decide)
    show _ ≤ _
    omega
  have HCm : Hid (Calls _ _ _ w5 _) := rcmd_ok r t4 w5 HC5.out HB4.out (fun b hb => by have := HZ.out.2.2 b hb; have := HO.out; have := HU5.out; omega)
  go_wp2_with fail
  refine HCm.out.mono ?_
  rintro e9 w6 ⟨hu, k9⟩
  have HK6 : Hid (Kp (fun b => b = r) w w6) := HK5.out.trans k9 (fun _ _ e => e)
  have HL6a : Hid (Lv w6 g (msgA ⟨(seqV xs 0 : Int), (seqV xs 1 : Int), (seqV xs 2 : Int), (seqV t1 0 : Int), (seqV t1 1 : Int), (seqV t2 0 : Int), (seqV t2 1 : Int), (seqV t2 2 : Int), (seqV t2 3 : Int), bo, ⟨0, 0, ⟨#[]⟩, 0, 0, 0, 0, 0, 0, 0, 0⟩⟩ (.slice none 0 0) (.slice none 0 0) (.slice none 0 0)).toList) := HL5.out.keep k9 (fun e => by have := HO.out; omega)
  have HLh6 : Hid (Lv w6 h2 zeroM.toList) := HLh5.out.keep k9 (fun e => by have := HO.out; omega)
  clear k9 HCm
  unfold RcRes at hu
  cases hm : rdCmd t4 with
  | none =>
    rw [hm] at hu
    have he : e9 = .panicked gaveUp := hu
    subst he
    exact HPan.out _ _ rfl (rdMsg_no3 HS9.out HSt.out hm) HK6.out
  | some p =>
  obtain ⟨c, t5⟩ := p
  rw [hm] at hu
  obtain ⟨q, cap, he, hfl, hc⟩ := hu
  subst he
  have HSc : Hid (rdCmd t4 = some (c, t5)) := hm
  have HC6 : Hid (Cu Z w6 r t5) := hc
  have HF6 : Hid (Fl w6 (fun b => g + 1 ≤ b ∧ b < w6.heap.size) q ((intsOf c.nodes).map encI)) := hfl.mono (fun b hb => ⟨by have := HU5.out; omega, hb.2⟩)
  have HB6 : Hid ((∀ x ∈ t5, x < 256) ∧ c.fit) := ⟨(rdCmd_back HB4.out hm).2.2, (rdCmd_back HB4.out hm).2.1⟩
  have HOc : Hid ((cmdA (csOf c) (.slice q c.nodes.length cap)).toList.toArray.all (·.oneCell') = true) := cmd_one _ rfl
  clear hc hfl hm
  go_upto_region 7 with (refine wpList_store_sub rfl 27 _ _ rfl 12 g 10 (msgA ⟨(seqV xs 0 : Int), (seqV xs 1 : Int), (seqV xs 2 : Int), (seqV t1 0 : Int), (seqV t1 1 : Int), (seqV t2 0 : Int), (seqV t2 1 : Int), (seqV t2 2 : Int), (seqV t2 3 : Int), bo, ⟨0, 0, ⟨#[]⟩, 0, 0, 0, 0, 0, 0, 0, 0⟩⟩ (.slice none 0 0) (.slice none 0 0) (.slice none 0 0)).toList (cmdA (csOf c) (.slice q c.nodes.length cap)).toList (msgA ⟨(seqV xs 0 : Int), (seqV xs 1 : Int), (seqV xs 2 : Int), (seqV t1 0 : Int), (seqV t1 1 : Int), (seqV t2 0 : Int), (seqV t2 1 : Int), (seqV t2 2 : Int), (seqV t2 3 : Int), bo, (csOf c)⟩ (.slice q c.nodes.length cap) (.slice none 0 0) (.slice none 0 0)).toList rfl rfl HL6a.out szCmd rfl (by show 10 + 12 ≤ 24; decide) HOc.out rfl ?_; intro w7 hl7 k7)
  have HL7 : Hid (Lv w7 g (msgA ⟨(seqV xs 0 : Int), (seqV xs 1 : Int), (seqV xs 2 : Int), (seqV t1 0 : Int), (seqV t1 1 : Int), (seqV t2 0 : Int), (seqV t2 1 : Int), (seqV t2 2 : Int), (seqV t2 3 : Int), bo, (csOf c)⟩ (.slice q c.nodes.length cap) (.slice none 0 0) (.slice none 0 0)).toList) := hl7
  have HK7 : Hid (Kp (fun b => b = r) w w7) := HK6.out.trans k7 (fun b hb e => by have := HO.out; omega)
  have HLh7 : Hid (Lv w7 h2 zeroM.toList) := HLh6.out.keep k7 (fun e => by have := HO.out; omega)
  have HC7 : Hid (Cu Z w7 r t5) := HC6.out.keep k7 HO.out.2.2.2.2.1 (fun b hb e => HZ.out.1 (e ▸ hb))
  have HF7 : Hid (Fl w7 (fun b => g + 1 ≤ b ∧ b < w7.heap.size) q ((intsOf c.nodes).map encI)) := (HF6.out.keep k7 (fun b hb e => by omega)).mono (fun b hb => ⟨hb.1, Nat.lt_of_lt_of_le hb.2 k7.size⟩)
  clear hl7 k7
  have H8 : Hid (Calls _ _ _ w7 _) := upTo_ok r 1000 t5 w7 HC7.out (by decide) HB6.out.1
  go_wp2_with fail
  refine H8.out.mono ?_
  rintro e9 w8 ⟨hu, k9⟩
  unfold UpRes at hu
  have HK8 : Hid (Kp (fun b => b = r) w w8) := HK7.out.trans k9 (fun _ _ e => e)
  have HL8 : Hid (Lv w8 g (msgA ⟨(seqV xs 0 : Int), (seqV xs 1 : Int), (seqV xs 2 : Int), (seqV t1 0 : Int), (seqV t1 1 : Int), (seqV t2 0 : Int), (seqV t2 1 : Int), (seqV t2 2 : Int), (seqV t2 3 : Int), bo, (csOf c)⟩ (.slice q c.nodes.length cap) (.slice none 0 0) (.slice none 0 0)).toList) := HL7.out.keep k9 (fun e => by have := HO.out; omega)
  have HLh8 : Hid (Lv w8 h2 zeroM.toList) := HLh7.out.keep k9 (fun e => by have := HO.out; omega)
  have HF8 : Hid (Fl w8 (fun b => g + 1 ≤ b ∧ b < w8.heap.size) q ((intsOf c.nodes).map encI)) := (HF7.out.keep k9 (fun b hb e => by have := HO.out; omega)).mono (fun b hb => ⟨hb.1, Nat.lt_of_lt_of_le hb.2 k9.size⟩)
  clear k9 H8
  cases hq : rdNum 1000 t5 with
  | none =>
    rw [hq] at hu
    have he : e9 = .panicked gaveUp := hu
    subst he
    exact HPan.out _ _ rfl (rdMsg_no4 HS9.out HSt.out HSc.out hq) HK8.out
  | some p =>
  obtain ⟨n, t6⟩ := p
  rw [hq] at hu
  obtain ⟨he, hc⟩ := hu
  subst he
  have HSn : Hid (rdNum 1000 t5 = some (n, t6)) := hq
  have HC8 : Hid (Cu Z w8 r t6) := hc
  have HB8 : Hid ((∀ x ∈ t6, x < 256) ∧ n ≤ 1000) := ⟨(rdNum_back HB6.out.1 hq).2.2.2, (rdNum_back HB6.out.1 hq).2.1⟩
  have hn : (n : Int) ≤ 1000 := by have := HB8.out; omega
  have HU8 : Hid (g + 1 ≤ w8.heap.size) := by
    have h1 := HL8.out.lt (by show 0 < 24; decide)
    show _ ≤ _
    omega
  clear hc hq
  go_wp2_with fail
  go_loopg [74] n (fun gk iv wz => ∃ (k : Nat) (vs : List Vp) (tk : List Nat) (v : Value) (l : List (Vo × Value)), k ≤ n ∧ gk = n - k ∧ iv = .int .i64 k ∧ Hid (rdVotes k t6 = some (vs, tk) ∧ Cu Z wz r tk ∧ OwV wz (g + 1) v l ∧ l.map (·.1) = vs.map voOf ∧ l.length = vs.length ∧ Vn wz (fun b => g + 1 ≤ b ∧ b < wz.heap.size ∧ v.ownBlock ≠ some b) l ∧ Lv wz g (msgA ⟨(seqV xs 0 : Int), (seqV xs 1 : Int), (seqV xs 2 : Int), (seqV t1 0 : Int), (seqV t1 1 : Int), (seqV t2 0 : Int), (seqV t2 1 : Int), (seqV t2 2 : Int), (seqV t2 3 : Int), bo, (csOf c)⟩ (.slice q c.nodes.length cap) v (.slice none 0 0)).toList ∧ Lv wz h2 zeroM.toList ∧ Kp (fun b => b = r) w wz ∧ Fl wz (fun b => g + 1 ≤ b ∧ b < wz.heap.size ∧ v.ownBlock ≠ some b) q ((intsOf c.nodes).map encI) ∧ g + 1 ≤ wz.heap.size))
  case atStart => exact ⟨0, [], t6, .slice none 0 0, [], Nat.zero_le _, rfl, rfl, rfl, HC8.out, World.ownsRow_nil _ _ _ _, rfl, rfl, fun x hx => (by cases hx), HL8.out, HLh8.out, HK8.out, HF8.out.mono (fun b hb => ⟨hb.1, hb.2, by simp [Value.ownBlock]⟩), HU8.out⟩
  case round =>
    obtain ⟨k, vs, tk, v, l, hk, rfl, rfl, HR⟩ := hrel
    by_cases hlt : (k : Int) < (n : Int)
    · have HKi : Hid (wrap64 ((k : Int) + 1) = ((k + 1 : Nat) : Int)) := (by show _ = _; unfold wrap64; omega)
      have HBk : Hid (∀ x ∈ tk, x < 256) := (rdVotes_back k t6 vs tk HB8.out.1 HR.out.1).2.2.2
      go_upto_region 9 with fail
      obtain ⟨hr1, hr2, hr3, hr4, hr5, hr6, hr7, hr8, hr9, hr10, hr11⟩ := HR.out
      refine rma_region (fun z => Cu Z z r tk) (fun z => ∃ x t, rdVote tk = some (x, t) ∧ Cu Z z r t) r g (g + 1) v l (fun y => ∃ x t, rdVote tk = some (x, t) ∧ y = voOf x) (msgA ⟨(seqV xs 0 : Int), (seqV xs 1 : Int), (seqV xs 2 : Int), (seqV t1 0 : Int), (seqV t1 1 : Int), (seqV t2 0 : Int), (seqV t2 1 : Int), (seqV t2 2 : Int), (seqV t2 3 : Int), bo, (csOf c)⟩ (.slice q c.nodes.length cap) v (.slice none 0 0)).toList (.pointer (some ⟨h2, 0, none⟩)) _ _ (by kernel_rfl) rfl ⟨rfl, rfl, rfl, rfl, rfl, rfl⟩ ⟨fun u1 u2 ku hu => hu.keep ku id (fun _ _ => id), fun u1 u2 ku hu => ?_, fun u1 hu hsz => ?_, ?_, Nat.lt_succ_self _, HO.out.2.2.2.2.1, ?_, hr11, fun b e => (ownBlock_lt hr3 e).2, (by show _ < 24; decide), rfl⟩ hr2 hr7 hr3 ?_
      · obtain ⟨x, t, ht, hu⟩ := hu
        refine ⟨x, t, ht, hu.keep ku (fun e => ?_) (fun b hb e => ?_)⟩
        · rcases e with e | e
          · exact HO.out.2.2.2.2.1 e
          · have := (ownBlock_lt hr3 e).1; have := HO.out; omega
        · rcases e with e | e
          · exact HZ.out.1 (e ▸ hb)
          · have := (ownBlock_lt hr3 e).1; have := HO.out; have := HZ.out.2.2 b hb; omega
      · have hsz' : wr.heap.size ≤ u1.heap.size := hsz
        refine (vote_ok r tk u1 hu HBk.out (fun b hb => by have := HZ.out.2.2 b hb; have := HO.out; omega)).mono ?_
        rintro e9 u2 ⟨hq, k2⟩
        refine ⟨k2, ?_⟩
        unfold VtRes at hq
        cases hm : rdVote tk with
        | none =>
          rw [hm] at hq
          refine Or.inr ⟨gaveUp, hq, fun a hB kw => ?_⟩
          have hno : rdVotes n t6 = none := by
            have := rdVotes_stop k (n - (k + 1)) t6 tk vs hr1 hm
            rwa [show k + 1 + (n - (k + 1)) = n by omega] at this
          refine HPan.out a u2 hB.2.2.2.2.2 (rdMsg_no5 HS9.out HSt.out HSc.out HSn.out hno) ?_
          refine hr9.trans (((Kp.refl (fun b => b = r ∨ b = g ∨ v.ownBlock = some b) _).drew).trans kw (fun _ _ e => e)) (fun b hb e => ?_)
          have := HO.out
          rcases e with e | e | e
          · exact e
          · omega
          · have := (ownBlock_lt hr3 e).1; omega
        | some p =>
          obtain ⟨x, t⟩ := p
          rw [hm] at hq
          obtain ⟨qx, cx, he, hfx, hcx⟩ := hq
          exact Or.inl ⟨voOf x, qx, cx, ⟨x, t, rfl, rfl⟩, by show e9 = .returned (.agg (vcell (voOf x) (.slice qx (intsOf x.c.nodes).length cx)).toArray); rw [intsOf_len]; exact he, hfx, x, t, rfl, hcx⟩
      · have := HO.out; omega
      · have h1 := (rdVotes_back k t6 vs tk HB8.out.1 hr1).2.1
        have h2 : l.length = vs.length := by have := congrArg List.length hr4; simpa using this
        have := HB8.out
        omega
      · intro q76 q77 q78 q79 q80 q81 q82 wz vz kz hp hM hl
        simp only [Act.put, List.setIfInBounds_toArray, List.set_cons_succ, List.set_cons_zero]
        obtain ⟨x, t, hx, hcz⟩ := hp
        obtain ⟨y, qy, cy, hh, ⟨x', t', hx', hy⟩, hoy, hfy, hb0, hhs, hbl⟩ := hM
        rw [hx] at hx'
        injection hx' with hx'
        injection hx' with e1 e2
        subst e1 e2 hy
        have hsep : ∀ b, b < wr.heap.size → v.ownBlock ≠ some b → vz.ownBlock ≠ some b := fun b hb hne e => by
          rcases hbl with q | ⟨j, q, hj⟩
          · exact hne (q ▸ e)
          · rw [q] at e; injection e with e; omega
        have hkeep : ∀ b, g + 1 ≤ b ∧ b < wr.heap.size ∧ v.ownBlock ≠ some b → ¬ (b = r ∨ b = g ∨ v.ownBlock = some b) := fun b hb e => by
          have := HO.out
          rcases e with e | e | e
          · omega
          · omega
          · exact hb.2.2 e
        have HZr : Hid (rdVotes (k + 1) t6 = some (vs ++ [x], t) ∧ Cu Z wz r t ∧ OwV wz (g + 1) vz (l ++ [(voOf x, Value.slice qy (voOf x).nodes.length cy)]) ∧ (l ++ [(voOf x, Value.slice qy (voOf x).nodes.length cy)]).map (·.1) = (vs ++ [x]).map voOf ∧ (l ++ [(voOf x, Value.slice qy (voOf x).nodes.length cy)]).length = (vs ++ [x]).length ∧ Vn wz (fun b => g + 1 ≤ b ∧ b < wz.heap.size ∧ vz.ownBlock ≠ some b) (l ++ [(voOf x, Value.slice qy (voOf x).nodes.length cy)]) ∧ Lv wz g (msgA ⟨(seqV xs 0 : Int), (seqV xs 1 : Int), (seqV xs 2 : Int), (seqV t1 0 : Int), (seqV t1 1 : Int), (seqV t2 0 : Int), (seqV t2 1 : Int), (seqV t2 2 : Int), (seqV t2 3 : Int), bo, (csOf c)⟩ (.slice q c.nodes.length cap) vz (.slice none 0 0)).toList ∧ Lv wz h2 zeroM.toList ∧ Kp (fun b => b = r) w wz ∧ Fl wz (fun b => g + 1 ≤ b ∧ b < wz.heap.size ∧ vz.ownBlock ≠ some b) q ((intsOf c.nodes).map encI) ∧ g + 1 ≤ wz.heap.size) := by
          refine ⟨rdVotes_snoc k t6 tk t vs x hr1 hx, hcz, hoy, by rw [List.map_append, List.map_append, hr4]; rfl, by rw [List.length_append, List.length_append, hr5]; rfl, fun z hz => ?_, hl, hr8.keep kz (fun e => ?_), hr9.trans kz (fun b hb e => ?_), (hr10.keep kz hkeep).mono (fun b hb => ⟨hb.1, Nat.lt_of_lt_of_le hb.2.1 kz.size, hsep b hb.2.1 hb.2.2⟩), Nat.le_trans hr11 kz.size⟩
          · rcases List.mem_append.1 hz with hz | hz
            · obtain ⟨pz, cz, ez, fz, nz⟩ := hr6 z hz
              exact ⟨pz, cz, ez, (fz.keep kz hkeep).mono (fun b hb => ⟨hb.1, Nat.lt_of_lt_of_le hb.2.1 kz.size, hsep b hb.2.1 hb.2.2⟩), nz⟩
            · rw [List.mem_singleton] at hz
              subst hz
              refine ⟨qy, cy, rfl, hfy.mono (fun b hb => ⟨Nat.le_trans hr11 hb.1, Nat.lt_of_lt_of_le hb.2 hhs, fun e => ?_⟩), ?_⟩
              · rcases hbl with q | ⟨j, q, hj⟩
                · have := (ownBlock_lt hr3 (q ▸ e)).2; omega
                · rw [q] at e; injection e with e; omega
              · show (intsOf x.c.nodes).length * 8 ≤ _
                rw [intsOf_len]
                have := (rdVote_back HBk.out hx).2.1.c.l
                omega
          · have := HO.out
            rcases e with e | e | e
            · omega
            · omega
            · have := (ownBlock_lt hr3 e).1; omega
          · have := HO.out
            rcases e with e | e | e
            · exact e
            · omega
            · have := (ownBlock_lt hr3 e).1; omega
        clear hcz hoy hfy hb0 hhs hbl hl hx kz hsep hkeep hr1 hr2 hr3 hr4 hr5 hr6 hr7 hr8 hr9 hr10 hr11
        go_wp2_with fail
        go_roundg (n - (k + 1))
        case rel => exact ⟨k + 1, vs ++ [x], t, vz, l ++ [(voOf x, Value.slice qy (voOf x).nodes.length cy)], by omega, rfl, by first | rw [HKi.out] | rfl | go_num, HZr.out⟩
        case measure => omega
    · have hkn : k = n := by omega
      subst hkn
      obtain ⟨bs, hbs⟩ : ∃ bs : List Nat, ∀ s u, rdText 2000 tk = some (s, u) → bs = s := by
        cases hq : rdText 2000 tk with
        | none => exact ⟨[], fun s u e => (by cases e)⟩
        | some p => exact ⟨p.1, fun s u e => by injection e with e; rw [e]⟩
      have HBs : Hid (∀ s u, rdText 2000 tk = some (s, u) → bs = s) := hbs
      clear hbs
      have HBk : Hid (∀ x ∈ tk, x < 256) := (rdVotes_back k t6 vs tk HB8.out.1 HR.out.1).2.2.2
      obtain ⟨bs2, hbs2, hbl2⟩ : ∃ bs : List Nat, (∀ s u, rdText 2000 tk = some (s, u) → bs = s) ∧ bs.length ≤ 2000 := by
        cases hq : rdText 2000 tk with
        | none => exact ⟨[], fun s u e => (by cases e), Nat.zero_le _⟩
        | some p => exact ⟨p.1, fun s u e => by injection e with e; rw [e], (rdText_back HBk.out hq).2.1⟩
      clear HBs bs
      obtain ⟨bs, hbe⟩ : ∃ x, x = bs2 := ⟨_, rfl⟩
      subst hbe
      have HBs : Hid ((∀ s u, rdText 2000 tk = some (s, u) → bs = s) ∧ bs.length ≤ 2000) := ⟨hbs2, hbl2⟩
      clear hbs2 hbl2
      obtain ⟨hr1, hr2, hr3, hr4, hr5, hr6, hr7, hr8, hr9, hr10, hr11⟩ := HR.out
      have HV1 : Hid (rdVotes k t6 = some (vs, tk) ∧ l.map (·.1) = vs.map voOf ∧ l.length = vs.length ∧ vs.length = k ∧ ∀ x ∈ vs, x.fit) := ⟨hr1, hr4, hr5, (rdVotes_back k t6 vs tk HB8.out.1 hr1).2.1, (rdVotes_back k t6 vs tk HB8.out.1 hr1).2.2.1⟩
      obtain ⟨ql, cl, rfl, hfl⟩ := own_fl hr3
      have HFl : Hid (Fl wr (fun b => g + 1 ≤ b ∧ b < wr.heap.size) ql (vflat l) ∧ Vn wr (fun b => g + 1 ≤ b ∧ b < wr.heap.size) l ∧ Fl wr (fun b => g + 1 ≤ b ∧ b < wr.heap.size) q ((intsOf c.nodes).map encI)) := ⟨hfl, hr6.mono (fun b hb => ⟨hb.1, hb.2.1⟩), hr10.mono (fun b hb => ⟨hb.1, hb.2.1⟩)⟩
      have HKw : Hid (Kp (fun b => b = r) w wr ∧ g + 1 ≤ wr.heap.size) := ⟨hr9, hr11⟩
      have HLv : Hid (Lv wr g (msgA ⟨(seqV xs 0 : Int), (seqV xs 1 : Int), (seqV xs 2 : Int), (seqV t1 0 : Int), (seqV t1 1 : Int), (seqV t2 0 : Int), (seqV t2 1 : Int), (seqV t2 2 : Int), (seqV t2 3 : Int), bo, csOf c⟩ (.slice q c.nodes.length cap) (.slice ql l.length cl) (.slice none 0 0)).toList) := hr7
      have HLhw : Hid (Lv wr h2 zeroM.toList) := hr8
      have HCw : Hid (Cu Z wr r tk) := hr2
      clear hr1 hr2 hr3 hr4 hr5 hr6 hr7 hr8 hr9 hr10 hr11 hfl HR
      go_upto_region 11 with fail
      refine rmb_region (fun m z => match m with | 0 => Cu Z z r tk | _ => ∃ t, rdText 2000 tk = some (bs, t) ∧ Cu Z z r t) r g 0 bs (msgA ⟨(seqV xs 0 : Int), (seqV xs 1 : Int), (seqV xs 2 : Int), (seqV t1 0 : Int), (seqV t1 1 : Int), (seqV t2 0 : Int), (seqV t2 1 : Int), (seqV t2 2 : Int), (seqV t2 3 : Int), bo, csOf c⟩ (.slice q c.nodes.length cap) (.slice ql l.length cl) (.slice none 0 0)).toList (.pointer (some ⟨h2, 0, none⟩)) (by kernel_rfl) rfl ⟨rfl, rfl, rfl, rfl⟩ ⟨fun m u1 u2 ku hu => ?_, fun u1 hu => ?_, ?_, ?_, HO.out.2.2.2.2.1, ?_, (by show _ < 24; decide), rfl⟩ HCw.out HLv.out ?_
      · cases m with
        | zero => exact Cu.keep hu ku HO.out.2.2.2.2.1 (fun b hb e => HZ.out.1 (e ▸ hb))
        | succ m =>
          obtain ⟨t, ht, hu⟩ := hu
          exact ⟨t, ht, hu.keep ku HO.out.2.2.2.2.1 (fun b hb e => HZ.out.1 (e ▸ hb))⟩
      · refine (text_ok r 2000 tk u1 hu (by decide) HBk.out).mono ?_
        rintro e9 u2 ⟨hq, k2⟩
        refine ⟨k2, ?_⟩
        unfold TxRes at hq
        cases hm : rdText 2000 tk with
        | none =>
          rw [hm] at hq
          refine Or.inr ⟨gaveUp, hq, fun a hB kw => ?_⟩
          refine HPan.out a u2 hB.2.2.2 (rdMsg_no6 HS9.out HSt.out HSc.out HSn.out HV1.out.1 hm) ?_
          exact HT.out _ _ HKw.out.1 (((Kp.refl (fun b => b = r ∨ b = g) _).drew).trans kw (fun _ _ e => e))
        | some p =>
          obtain ⟨s, t⟩ := p
          rw [hm] at hq
          obtain ⟨qx, he, hrb, hcx, hzx⟩ := hq
          have e1 := HBs.out.1 s t hm
          subst e1
          exact Or.inl ⟨_, he, ⟨qx, _, _, rfl, hrb, fun a ha hp => ⟨(hzx a ha hp).1, fun e => HZ.out.1 (e ▸ (hzx a ha hp).2)⟩⟩, t, rfl, hcx⟩
      · show r < wr.heap.size
        have := HO.out; have := HKw.out.2; omega
      · show g < wr.heap.size
        have := HKw.out.2; omega
      · have := HBs.out.2; omega
      · intro q84 q85 q86 q87 q88 q89 q90 q91 q92 wz vb kz hp ho hl
        simp only [Act.put, List.setIfInBounds_toArray, List.set_cons_succ, List.set_cons_zero]
        obtain ⟨t, hst, hcz⟩ := hp
        obtain ⟨qb, cb, rfl, hfb⟩ := own_fl ho
        have HFz : Hid (Fl wz (fun b => g + 1 ≤ b ∧ b < wz.heap.size) ql (vflat l) ∧ Vn wz (fun b => g + 1 ≤ b ∧ b < wz.heap.size) l ∧ Fl wz (fun b => g + 1 ≤ b ∧ b < wz.heap.size) q ((intsOf c.nodes).map encI) ∧ Fl wz (fun b => g + 1 ≤ b ∧ b < wz.heap.size) qb (vl bs)) := by
          obtain ⟨f1, f2, f3⟩ := HFl.out
          have hk : ∀ b, g + 1 ≤ b ∧ b < wr.heap.size → ¬ (b = r ∨ b = g) := fun b hb e => by have := HO.out; omega
          have hm : ∀ b, g + 1 ≤ b ∧ b < wr.heap.size → g + 1 ≤ b ∧ b < wz.heap.size := fun b hb => ⟨hb.1, Nat.lt_of_lt_of_le hb.2 kz.size⟩
          exact ⟨(f1.keep kz hk).mono hm, (f2.keep kz hk).mono hm, (f3.keep kz hk).mono hm, hfb.mono (fun b hb => ⟨Nat.le_trans HKw.out.2 hb.1, hb.2⟩)⟩
        have HLz : Hid (Lv wz g (msgA ⟨(seqV xs 0 : Int), (seqV xs 1 : Int), (seqV xs 2 : Int), (seqV t1 0 : Int), (seqV t1 1 : Int), (seqV t2 0 : Int), (seqV t2 1 : Int), (seqV t2 2 : Int), (seqV t2 3 : Int), bo, csOf c⟩ (.slice q c.nodes.length cap) (.slice ql l.length cl) (.slice qb bs.length cb)).toList) := hl
        have HLhz : Hid (Lv wz h2 zeroM.toList) := HLhw.out.keep kz (fun e => by have := HO.out; omega)
        have HKz : Hid (Kp (fun b => b = r) w wz) := HT.out _ _ HKw.out.1 kz
        have HCz : Hid (Cu Z wz r t) := hcz
        have HSx : Hid (rdText 2000 tk = some (bs, t)) := hst
        have HOm : Hid ((msgA ⟨(seqV xs 0 : Int), (seqV xs 1 : Int), (seqV xs 2 : Int), (seqV t1 0 : Int), (seqV t1 1 : Int), (seqV t2 0 : Int), (seqV t2 1 : Int), (seqV t2 2 : Int), (seqV t2 3 : Int), bo, csOf c⟩ (.slice q c.nodes.length cap) (.slice ql l.length cl) (.slice qb bs.length cb)).toList.toArray.all (·.oneCell') = true) := msg_one _ rfl rfl rfl
        clear hcz hfb ho hl kz hst
        go_wp2_with (first
          | (refine wpList_load_all rfl 40 _ rfl 24 g (msgA ⟨(seqV xs 0 : Int), (seqV xs 1 : Int), (seqV xs 2 : Int), (seqV t1 0 : Int), (seqV t1 1 : Int), (seqV t2 0 : Int), (seqV t2 1 : Int), (seqV t2 2 : Int), (seqV t2 3 : Int), bo, csOf c⟩ (.slice q c.nodes.length cap) (.slice ql l.length cl) (.slice qb bs.length cb)).toList rfl HLz.out dsMsg szMsg rfl ?_)
          | (refine wpList_store_all rfl 40 _ _ rfl 24 h2 zeroM.toList (msgA ⟨(seqV xs 0 : Int), (seqV xs 1 : Int), (seqV xs 2 : Int), (seqV t1 0 : Int), (seqV t1 1 : Int), (seqV t2 0 : Int), (seqV t2 1 : Int), (seqV t2 2 : Int), (seqV t2 3 : Int), bo, csOf c⟩ (.slice q c.nodes.length cap) (.slice ql l.length cl) (.slice qb bs.length cb)).toList rfl rfl HLhz.out szMsg rfl rfl HOm.out ?_; intro w9 hl9 k9))
        refine bodyPost_ret (res_cell Tryd.results43 _ _ h2 _ rfl (hl9.load dsMsg szMsg rfl)) rfl ?_
        refine ⟨?_, HKz.out.trans k9 (fun b hb e => by have := HO.out; omega)⟩
        unfold MsRes
        rw [rdMsg_yes HS9.out HSt.out HSc.out HSn.out HV1.out.1 HSx.out]
        dsimp only
        rw [show seqV xs 3 = seqV t1 0 from seqV_add HS1.out 0, show seqV xs 4 = seqV t1 1 from seqV_add HS1.out 1, show seqV xs 5 = seqV t2 0 from seqV_add HS5.out 0, show seqV xs 6 = seqV t2 1 from seqV_add HS5.out 1, show seqV xs 7 = seqV t2 2 from seqV_add HS5.out 2, show seqV xs 8 = seqV t2 3 from seqV_add HS5.out 3]
        obtain ⟨f1, f2, f3, f4⟩ := HFz.out
        have hk9 : ∀ b, g + 1 ≤ b ∧ b < wz.heap.size → ¬ b = h2 := fun b hb e => by have := HO.out; omega
        have hm9 : ∀ b, g + 1 ≤ b ∧ b < wz.heap.size → w.heap.size ≤ b ∧ b < w9.heap.size := fun b hb => ⟨by have := HO.out; omega, Nat.lt_of_lt_of_le hb.2 k9.size⟩
        refine ⟨_, rfl, ⟨q, cap, ql, cl, l, qb, cb, ?_, (f3.keep k9 hk9).mono hm9, ?_, HV1.out.2.1, (f1.keep k9 hk9).mono hm9, (f2.keep k9 hk9).mono hm9, ?_, (f4.keep k9 hk9).mono hm9, (rdText_back HBk.out HSx.out).2.2.1, ?_⟩, HCz.out.keep k9 (fun e => HO.out.2.2.2.2.2.1 e.symm) (fun b hb e => HZ.out.2.1 (e ▸ hb))⟩
        · show Value.agg _ = Value.agg (msgA _ (.slice q (intsOf c.nodes).length cap) _ _)
          rw [intsOf_len]
          rfl
        · show (intsOf c.nodes).length * 8 ≤ _
          rw [intsOf_len]
          have := HB6.out.2.l
          omega
        · have h1 := HV1.out.2.2.1
          have h2 := HV1.out.2.2.2.1
          have h3 := HB8.out.2
          omega
        · show bs.length ≤ _
          have := HBs.out.2
          omega
end Go.Proofs.YtoepemgflbmlcaaDoor

/- frame.ReadMsg's closure, attempt, ReadMsg. -/
namespace Go.Proofs.YtoepemgflbmlcaaDoor
set_option linter.unusedVariables false
set_option linter.unusedSimpArgs false
open Go.RowKit Go.Deep

/-- the message of bytes, plain -/
def okM (xs : List Nat) : Option Mp := (rdMsg xs).bind (fun p => if p.2 = [] ∧ mayM (msOf p.1) = true then some p.1 else none)
theorem good_csOf {c : Cp} (h : c.fit) : goodC (csOf c) := ⟨by show (0 : Int) ≤ (c.sum : Int); omega, by show (c.sum : Int) < 4294967296; have := h.s; omega, by show (str c.key).size ≤ _; rw [str_size]; have := h.k; omega⟩
theorem good_msOf {m : Mp} (h : m.fit) : goodM (msOf m) := ⟨good_csOf h.c, fun v hv => by
  obtain ⟨x, hx, rfl⟩ := List.mem_map.1 (show v ∈ m.votes.map voOf from hv)
  exact good_csOf (h.v x hx).c⟩
/-- what the closure answers -/
def M1Res (xs : List Nat) (w : World) (e : Ending) (w' : World) : Prop := match okM xs with
  | some m => ∃ v, e = .returned v ∧ Mr w' (fun b => w.heap.size ≤ b ∧ b < w'.heap.size) (msOf m) v
  | none => e = .panicked gaveUp
theorem Mr.form {w : World} {Z : Nat → Prop} {μ : Ms} {v : Value} (h : Mr w Z μ v) : ∃ xa : Array Value, v = .agg xa ∧ xa.toList.length = 24 ∧ xa.toList.toArray.all (·.oneCell') = true := by
  obtain ⟨p, cp, pv, cv, l, pb, cb, rfl, _⟩ := h
  exact ⟨_, rfl, rfl, msg_one _ rfl rfl rfl⟩
theorem zeroM_one : zeroM.toList.toArray.all (·.oneCell') = true := msg_one ⟨0, 0, 0, 0, 0, 0, 0, 0, 0, false, ⟨0, 0, ⟨#[]⟩, 0, 0, 0, 0, 0, 0, 0, 0⟩⟩ (a := .slice none 0 0) (b := .slice none 0 0) (c := .slice none 0 0) rfl rfl rfl

set_option maxRecDepth 100000 in
set_option maxHeartbeats 3200000 in
theorem rm1_ok {Z : Nat → Prop} (r : Nat) (xs : List Nat) (w : World) (h : Cu Z w r xs) (hb : ∀ x ∈ xs, x < 256) (hZ : ∀ b, Z b → b < w.heap.size) : Calls Tryd.prog 42 #[.pointer (some ⟨r, 0, none⟩)] w fun e w' => M1Res xs w e w' ∧ Kp (fun b => b = r) w w' := by
  have hr : r < w.heap.size := by
    obtain ⟨q, m, c, h1, _⟩ := h
    exact World.block_lt_of_cell? _ _ h1
  obtain ⟨h2, hh2⟩ : ∃ x, x = w.heap.size := ⟨_, rfl⟩
  obtain ⟨u, hu⟩ : ∃ x, x = w.alloc (.cells zeroM 40) := ⟨_, rfl⟩
  have k0 : Kp (fun _ => False) w u := by rw [hu]; exact (Kp.refl _ _).alloc _
  have HLh : Hid (Lv u h2 zeroM.toList) := by rw [hu, hh2]; exact Lv.new w _ _
  have HK0 : Hid (Kp (fun b => b = r) w u) := k0.mono (fun _ _ e => e.elim)
  have HO : Hid (r < h2 ∧ h2 = w.heap.size ∧ u.heap.size = h2 + 1) := by
    have : u.heap.size = w.heap.size + 1 := by rw [hu]; simp
    show _ ∧ _
    omega
  have HC : Hid (Calls _ _ _ u _) := rmsg_ok r xs u (h.keep k0 id (fun _ _ => id)) hb (fun b hb => by have := hZ b hb; have := HO.out; omega)
  have HB : Hid (∀ x ∈ xs, x < 256) := hb
  have HPan : Hid (∀ (a : Act) (w' : World), a.defers = [] → okM xs = none → Kp (fun b => b = r) w w' → bodyPost Tryd.prog Tryd.f42 (fun e w' => M1Res xs w e w' ∧ Kp (fun b => b = r) w w') (.panic gaveUp) a w') := fun a w' hd hn k => ⟨hd, by unfold M1Res; rw [hn], k⟩
  have hu' : w.alloc (.cells #[.int .i64 0, .int .i64 0, .int .i64 0, .int .i64 0, .int .i64 0, .int .i64 0, .int .i64 0, .int .i64 0, .int .i64 0, .bool false, .int .i64 0, .int .i64 0, .string ⟨#[]⟩, .int .i64 0, .int .i64 0, .int .i64 0, .int .i64 0, .int .i64 0, .int .u32 0, .int .i64 0, .int .i64 0, .slice none 0 0, .slice none 0 0, .slice none 0 0] 40) = u := hu.symm
  have HNy : Hid (∀ z, Calls _ _ _ z _) := need_yes (.pointer (some ⟨r, 0, none⟩))
  have HNn : Hid (∀ z, Calls _ _ _ z _) := need_no (.pointer (some ⟨r, 0, none⟩))
  clear h hb hZ hr hu k0
  go_enter Tryd.func42, Tryd.ntmps42
  go_wp2_with fail
  refine HC.out.mono ?_
  rintro e9 w1 ⟨hq, k1⟩
  have HK1 : Hid (Kp (fun b => b = r) w w1) := HK0.out.trans k1 (fun _ _ e => e)
  have HLh1 : Hid (Lv w1 h2 zeroM.toList) := HLh.out.keep k1 (fun e => by have := HO.out; omega)
  have HU1 : Hid (h2 + 1 ≤ w1.heap.size) := by have := k1.size; have := HO.out; show _ ≤ _; omega
  rw [← hh2]
  clear hu' hh2 k1 HC
  unfold MsRes at hq
  cases hm : rdMsg xs with
  | none =>
    rw [hm] at hq
    have he : e9 = .panicked gaveUp := hq
    subst he
    exact HPan.out _ _ rfl (by unfold okM; rw [hm]; rfl) HK1.out
  | some p =>
  obtain ⟨c, t⟩ := p
  rw [hm] at hq
  obtain ⟨v, he, hmr, hc⟩ := hq
  subst he
  have HM : Hid (rdMsg xs = some (c, t)) := hm
  have HC1 : Hid (Cu Z w1 r t) := hc
  have HF1 : Hid (Mr w1 (fun b => u.heap.size ≤ b ∧ b < w1.heap.size) (msOf c) v) := hmr
  have HFit : Hid (c.fit) := (rdMsg_back HB.out hm).2.1
  obtain ⟨xa, hxa, hxl, hx1⟩ := hmr.form
  have HXl : Hid (xa.toList.length = 24) := hxl
  have HX1 : Hid (xa.toList.toArray.all (·.oneCell') = true) := hx1
  subst hxa
  have HMay : Hid (∀ z, Mr z (fun b => u.heap.size ≤ b ∧ b < w1.heap.size) (msOf c) (.agg xa) → Calls Tryd.prog 39 #[.agg xa] z fun e w' => e = .returned (.bool (mayM (msOf c))) ∧ Kp (fun _ => False) z w') := fun z hz => mayMsg_ok _ (msOf c) (.agg xa) z hz (good_msOf HFit.out)
  clear hc hmr hm hxl hx1
  obtain ⟨dC, hdC, hdR⟩ := dsMsg
  go_upto_region 2 with (refine wpList_store_all rfl 40 _ _ rfl 24 w1.heap.size zeroM.toList xa.toList rfl (by rw [Array.toArray_toList]; rfl) (by exact Lv.new w1 _ _) szMsg rfl HXl.out HX1.out ?_; intro w2 hl2 k2)
  have k12 : Kp (fun _ => False) w1 w2 := ((Kp.refl (fun _ => False) w1).alloc (.cells zeroM 40)).trans k2 (fun b hb e => by omega)
  obtain ⟨g, hg⟩ : ∃ x, x = w1.heap.size := ⟨_, rfl⟩
  rw [← hg] at hl2 ⊢
  have HL2 : Hid (Lv w2 g xa.toList) := hl2
  have HLh2 : Hid (Lv w2 h2 zeroM.toList) := HLh1.out.keep k12 id
  have HC2 : Hid (Cu Z w2 r t) := HC1.out.keep k12 id (fun _ _ => id)
  have HF2 : Hid (Mr w2 (fun b => u.heap.size ≤ b ∧ b < w1.heap.size) (msOf c) (.agg xa)) := HF1.out.keep k12 (fun _ _ => id)
  have HK2 : Hid (Kp (fun b => b = r) w w2) := HK1.out.trans k12 (fun _ _ e => e.elim)
  have HG : Hid (g = w1.heap.size ∧ h2 < g) := ⟨hg, by have := HU1.out; omega⟩
  clear k2 k12 hl2 hg HC1 HF1
  have HD : Hid (Calls _ _ _ w2 _) := done_ok r t w2 HC2.out
  go_wp2_with fail
  refine HD.out.mono ?_
  rintro e9 w9 ⟨rfl, hw9⟩
  have hw8 := hw9.symm
  subst hw8
  clear hw9 HD
  cases t with
  | cons y t' =>
    have HOk : Hid (okM xs = none) := by show _ = _; unfold okM; rw [HM.out]; rfl
    go_wp2_with fail
    refine (HNn.out w2).mono ?_
    rintro e9 w9 ⟨rfl, hw9⟩
    have hw8 := hw9.symm
    subst hw8
    exact HPan.out _ _ rfl HOk.out HK2.out
  | nil =>
    go_wp2_with (refine wpList_ldw (by first | rfl | go_simp) 40 _ rfl g rfl xa.toList dC HL2.out hdC hdR (by rw [szMsg, HXl.out]) ?_; rw [Array.toArray_toList])
    refine (HMay.out w2 HF2.out).mono ?_
    rintro e9 w3 ⟨rfl, k3⟩
    have HL3 : Hid (Lv w3 g xa.toList) := HL2.out.keep k3 id
    have HLh3 : Hid (Lv w3 h2 zeroM.toList) := HLh2.out.keep k3 id
    have HF3 : Hid (Mr w3 (fun b => u.heap.size ≤ b ∧ b < w1.heap.size) (msOf c) (.agg xa)) := HF2.out.keep k3 (fun _ _ => id)
    have HK3 : Hid (Kp (fun b => b = r) w w3) := HK2.out.trans k3 (fun _ _ e => e.elim)
    have HZ3 : Hid (w1.heap.size ≤ w3.heap.size) := by have h1 := HL2.out.lt (by rw [HXl.out]; decide); have h2 := HG.out; have h3 := k3.size; show _ ≤ _; omega
    clear k3
    cases hM : mayM (msOf c) with
    | false =>
      have HOk : Hid (okM xs = none) := by show _ = _; unfold okM; rw [HM.out]; show (if _ then _ else _) = _; rw [if_neg]; intro h9; have := h9.2; dsimp only at this; rw [hM] at this; cases this
      clear hM
      go_wp2_with fail
      refine (HNn.out w3).mono ?_
      rintro e9 w9 ⟨rfl, hw9⟩
      have hw8 := hw9.symm
      subst hw8
      exact HPan.out _ _ rfl HOk.out HK3.out
    | true =>
      have HOk : Hid (okM xs = some c) := by show _ = _; unfold okM; rw [HM.out]; show (if _ then _ else _) = _; rw [if_pos]; exact ⟨rfl, hM⟩
      clear hM
      go_wp2_with fail
      refine (HNy.out w3).mono ?_
      rintro e9 w9 ⟨⟨v9, rfl⟩, hw9⟩
      have hw8 := hw9.symm
      subst hw8
      clear hw9
      go_wp2_with (first
        | (refine wpList_load_all rfl 40 _ rfl 24 g xa.toList rfl HL3.out ⟨dC, hdC, hdR⟩ szMsg HXl.out ?_)
        | (refine wpList_store_all rfl 40 _ _ rfl 24 h2 zeroM.toList xa.toList rfl rfl HLh3.out szMsg rfl HXl.out HX1.out ?_; intro w4 hl4 k4))
      refine bodyPost_ret (res_cell Tryd.results42 _ _ h2 _ rfl (hl4.load ⟨dC, hdC, hdR⟩ szMsg HXl.out)) rfl ?_
      refine ⟨?_, HK3.out.trans k4 (fun b hb e => by have := HO.out; omega)⟩
      unfold M1Res
      rw [HOk.out]
      refine ⟨_, rfl, ?_⟩
      rw [Array.toArray_toList]
      exact (HF3.out.keep k4 (fun b hb e => by have := HO.out; omega)).mono (fun b hb => ⟨by have := HO.out; omega, by have := HZ3.out; have := k4.size; omega⟩)

theorem mcatch_p (p : Addr) (x : Int) (ty : TypeId) (pv : Value) (older : List PanicEntry) (w : World) (hc : w.cell? p = some (.int .i64 x)) (hz : w.frozen? p = false) :
    CallsD Tryd.prog 61 #[.pointer (some p)] (.panicking ({ v := .iface ty pv, recovered := false } :: older)) w fun e u' w' =>
      e = .returned (.tuple #[]) ∧ u' = .panicking ({ v := .iface ty pv, recovered := true } :: older) ∧ w' = w.setCell p (.int .i64 51) := by
  refine callsD_of_wpS Tryd.func61 rfl fun c₀ cs hu => ?_
  apply wpS_seq
  apply wpS_region
  simp [wpOpsS, go_sem, recoverD, hu, Tryd.ntmps61, Exit.thenS]
  refine wpS_cond (t := true) (by simp [Act.eval, Array.replicate]) ?_
  simp only [if_true]
  apply wpS_region
  simp [wpOpsS, go_sem, hc, hz, bodyPostS, results, Tryd.results61]

theorem mcatch_i (p : Addr) (w : World) :
    CallsD Tryd.prog 61 #[.pointer (some p)] .returning w fun e u' w' => e = .returned (.tuple #[]) ∧ u' = .returning ∧ w' = w := by
  refine callsD_of_wpS Tryd.func61 rfl fun c₀ cs hu => ?_
  apply wpS_seq
  apply wpS_region
  simp [wpOpsS, go_sem, recoverD, hu, Tryd.ntmps61, Exit.thenS]
  refine wpS_cond (t := false) (by simp [Act.eval, Array.replicate]) ?_
  simp only [Bool.false_eq_true, if_false]
  refine wpS_of_wp (wp_skip ?_)
  cases c₀
  simp_all [bodyPostS, results, Tryd.results61]

/-- what attempt answers -/
def MtRes (xs : List Nat) (w : World) (e : Ending) (w' : World) : Prop := match okM xs with
  | some m => ∃ v, e = .returned (.tuple #[v, .int .i64 0]) ∧ Mr w' (fun b => w.heap.size ≤ b ∧ b < w'.heap.size) (msOf m) v
  | none => e = .returned (.tuple #[.agg zeroM, .int .i64 51])

set_option maxRecDepth 100000 in
set_option maxHeartbeats 3200000 in
theorem mattempt_ok {Z : Nat → Prop} (r : Nat) (xs : List Nat) (w : World) (h : Cu Z w r xs) (hb : ∀ x ∈ xs, x < 256) (hZ : ∀ b, Z b → b < w.heap.size) : Calls Tryd.prog 41 #[.func (.func 42) #[] #[.pointer (some ⟨r, 0, none⟩)]] w fun e w' => MtRes xs w e w' ∧ Kp (fun b => b = r) w w' := by
  have hr : r < w.heap.size := by
    obtain ⟨q, m, c, h1, _⟩ := h
    exact World.block_lt_of_cell? _ _ h1
  obtain ⟨h2, hh2⟩ : ∃ x, x = w.heap.size := ⟨_, rfl⟩
  obtain ⟨g, hg⟩ : ∃ x, x = w.heap.size + 1 := ⟨_, rfl⟩
  obtain ⟨u, hu⟩ : ∃ x, x = (w.alloc (.cells zeroM 40)).alloc (.cells #[.int .i64 0] 29) := ⟨_, rfl⟩
  have z1 : (w.alloc (.cells zeroM 40)).heap.size = w.heap.size + 1 := by simp
  have k0 : Kp (fun _ => False) w u := by rw [hu]; exact ((Kp.refl _ _).alloc _).alloc _
  have HLh : Hid (Lv u h2 zeroM.toList) := by rw [hu, hh2]; exact (Lv.new w _ _).keep ((Kp.refl (fun _ => False) _).alloc _) id
  have HLg : Hid (Lv u g [.int .i64 0]) := by rw [hu, hg, ← z1]; exact Lv.new _ _ _
  have HK0 : Hid (Kp (fun b => b = r) w u) := k0.mono (fun _ _ e => e.elim)
  have HO : Hid (r < h2 ∧ h2 = w.heap.size ∧ g = h2 + 1 ∧ u.heap.size = g + 1) := by
    have : u.heap.size = w.heap.size + 2 := by rw [hu]; simp
    show _ ∧ _
    omega
  have HC : Hid (Calls _ _ _ u _) := rm1_ok r xs u (h.keep k0 id (fun _ _ => id)) hb (fun b hb => by have := hZ b hb; have := HO.out; omega)
  have hu' : (w.alloc (.cells #[.int .i64 0, .int .i64 0, .int .i64 0, .int .i64 0, .int .i64 0, .int .i64 0, .int .i64 0, .int .i64 0, .int .i64 0, .bool false, .int .i64 0, .int .i64 0, .string ⟨#[]⟩, .int .i64 0, .int .i64 0, .int .i64 0, .int .i64 0, .int .i64 0, .int .u32 0, .int .i64 0, .int .i64 0, .slice none 0 0, .slice none 0 0, .slice none 0 0] 40)).alloc (.cells #[.int .i64 0] 29) = u := hu.symm
  have hmf : ∀ (fn : Fn) (first cap : Array Value) (w : World), (Instr.makeFunc fn first cap).run Tryd.prog w = .ok (.func fn first cap) w := fun _ _ _ _ => rfl
  clear h hb hZ hr hu z1 k0
  go_enter_defers Tryd.func41, Tryd.ntmps41
  go_wp2_with fail
  refine HC.out.mono ?_
  rintro e9 w1 ⟨hq, k1⟩
  have HK1 : Hid (Kp (fun b => b = r) w w1) := HK0.out.trans k1 (fun _ _ e => e)
  have HLh1 : Hid (Lv w1 h2 zeroM.toList) := HLh.out.keep k1 (fun e => by have := HO.out; omega)
  have HLg1 : Hid (Lv w1 g [.int .i64 0]) := HLg.out.keep k1 (fun e => by have := HO.out; omega)
  rw [← hg, ← hh2]
  clear hu' hh2 hg k1 HC
  unfold M1Res at hq
  cases hm : okM xs with
  | none =>
    rw [hm] at hq
    have he : e9 = .panicked gaveUp := hq
    subst he
    have HM : Hid (okM xs = none) := hm
    clear hm
    refine leaves_cons (f := 61) (args := #[.pointer (some ⟨g, 0, none⟩)]) (by simp) (by simp [go_sem]) ?_
    refine (mcatch_p ⟨g, 0, none⟩ 0 29 _ [] w1 (HLg1.out.cell (j := 0) rfl) (HLg1.out.fz (show 0 < 1 by omega))).mono ?_
    rintro e u' w2 ⟨rfl, rfl, hw2⟩
    have ks : Kp (fun b => b = g) w1 w2 := by rw [hw2]; show Kp _ _ _; exact (Kp.refl (fun b => b = g) w1).setCell (fun _ => rfl) _
    have hl2 : Lv w2 g [.int .i64 51] := by rw [hw2]; exact HLg1.out.set1' 0 _ (show 0 < 1 by omega)
    have hlh2 : Lv w2 h2 zeroM.toList := HLh1.out.keep ks (fun e => by have := HO.out; omega)
    refine ⟨_, res_cell_cell Tryd.results41 _ _ h2 g _ _ rfl (hlh2.load dsMsg szMsg rfl) rfl (load_errno g 51 w2 (hl2.cell (j := 0) rfl)), ?_, HK1.out.trans ks (fun b hb e => by have := HO.out; omega)⟩
    unfold MtRes
    rw [HM.out]
  | some c =>
    rw [hm] at hq
    obtain ⟨v, he, hmr⟩ := hq
    subst he
    have HM : Hid (okM xs = some c) := hm
    have HF1 : Hid (Mr w1 (fun b => u.heap.size ≤ b ∧ b < w1.heap.size) (msOf c) v) := hmr
    obtain ⟨xa, hxa, hxl, hx1⟩ := hmr.form
    have HXl : Hid (xa.toList.length = 24) := hxl
    have HX1 : Hid (xa.toList.toArray.all (·.oneCell') = true) := hx1
    subst hxa
    clear hm hmr hxl hx1
    have cg : w1.cell? ⟨g, 0, none⟩ = some (.int .i64 0) := HLg1.out.cell (j := 0) rfl
    have fg : w1.frozen? ⟨g, 0, none⟩ = false := HLg1.out.fz (show 0 < 1 by omega)
    go_wp2_with (refine wpList_store_all rfl 40 _ _ rfl 24 h2 zeroM.toList xa.toList rfl (by rw [Array.toArray_toList]; rfl) HLh1.out szMsg rfl HXl.out HX1.out ?_; intro w2 hl2 k2; have cg2 : w2.cell? ⟨g, 0, none⟩ = some (.int .i64 0) := (HLg1.out.keep k2 (fun e => by have := HO.out; omega)).cell (j := 0) rfl; have fg2 : w2.frozen? ⟨g, 0, none⟩ = false := (HLg1.out.keep k2 (fun e => by have := HO.out; omega)).fz (show 0 < 1 by omega))
    have ks : Kp (fun b => b = g) w2 (w2.setCell ⟨g, 0, none⟩ (.int .i64 0)) := (by show Kp _ _ _; exact (Kp.refl (fun b => b = g) w2).setCell (fun _ => rfl) _)
    have hl3 : Lv (w2.setCell ⟨g, 0, none⟩ (.int .i64 0)) g [.int .i64 0] := (HLg1.out.keep k2 (fun e => by have := HO.out; omega)).set1' 0 _ (show 0 < 1 by omega)
    have hlh3 := hl2.keep ks (fun e => by have := HO.out; omega)
    refine leaves_cons (f := 61) (args := #[.pointer (some ⟨g, 0, none⟩)]) (by simp) (by simp [go_sem]) ?_
    refine (mcatch_i ⟨g, 0, none⟩ _).mono ?_
    rintro e u' w4 ⟨rfl, rfl, hw4⟩
    rw [hw4]
    refine ⟨_, res_cell_cell Tryd.results41 _ _ h2 g _ _ rfl (hlh3.load dsMsg szMsg HXl.out) rfl (load_errno g 0 _ (hl3.cell (j := 0) rfl)), ?_, (HK1.out.trans k2 (fun b hb e => by have := HO.out; omega)).trans ks (fun b hb e => by have := HO.out; omega)⟩
    unfold MtRes
    rw [HM.out]
    refine ⟨_, rfl, ?_⟩
    rw [Array.toArray_toList]
    refine ((HF1.out.keep k2 (fun b hb e => by have := HO.out; omega)).keep ks (fun b hb e => by have := HO.out; omega)).mono (fun b hb => ⟨by have := HO.out; omega, ?_⟩)
    have h8 := k2.size
    have h9 := ks.size
    omega

set_option maxRecDepth 100000 in
set_option maxHeartbeats 3200000 in
theorem readmsg_ok (p : Option Addr) (n cap : Nat) (xs : List Nat) (w : World) (h : Rb w p n xs) (hnc : n ≤ cap) (hcap : (cap : Int) ≤ 9223372036854775807) : Calls Tryd.prog 16 #[.slice p n cap] w fun e w' => MtRes xs w e w' ∧ Kp (fun _ => False) w w' := by
  obtain ⟨h2, hh2⟩ : ∃ x, x = w.heap.size := ⟨_, rfl⟩
  obtain ⟨r, hr⟩ : ∃ x, x = w.heap.size + 1 := ⟨_, rfl⟩
  have HKa : Hid (∀ u, u = (w.alloc (.cells zeroM 40)).alloc (.cells #[.slice p n cap] 74) → Kp (fun _ => False) w u ∧ Lv u h2 zeroM.toList ∧ Cu (fun b => b < w.heap.size) u r xs ∧ u.heap.size = w.heap.size + 2) := fun u hu => by
    have z1 : (w.alloc (.cells zeroM 40)).heap.size = w.heap.size + 1 := by simp
    have k0 : Kp (fun _ => False) w u := by rw [hu]; exact ((Kp.refl _ _).alloc _).alloc _
    have hl : Lv u r [.slice p n cap] := by rw [hu, hr, ← z1]; exact Lv.new _ _ _
    exact ⟨k0, by rw [hu, hh2]; exact (Lv.new w _ _).keep ((Kp.refl (fun _ => False) _).alloc _) id, ⟨p, n, cap, hl.cell (j := 0) rfl, hl.fz (show 0 < 1 by omega), hnc, hcap, h.keep0 k0, fun a ha hp => by have := h.blk a ha hp; exact ⟨by omega, this⟩⟩, by rw [hu]; simp⟩
  have HB : Hid (∀ x ∈ xs, x < 256) := h.byte
  have hmf : ∀ (fn : Fn) (first cap : Array Value) (w : World), (Instr.makeFunc fn first cap).run Tryd.prog w = .ok (.func fn first cap) w := fun _ _ _ _ => rfl
  have HO : Hid (h2 = w.heap.size ∧ r = w.heap.size + 1) := ⟨hh2, hr⟩
  clear h hnc hcap
  go_enter Tryd.func16, Tryd.ntmps16
  go_wp2_with fail
  obtain ⟨u, hu⟩ : ∃ x, x = (w.alloc (.cells zeroM 40)).alloc (.cells #[.slice p n cap] 74) := ⟨_, rfl⟩
  obtain ⟨k0, l0, c0, z0⟩ := HKa.out u hu
  rw [show (w.alloc (.cells #[.int .i64 0, .int .i64 0, .int .i64 0, .int .i64 0, .int .i64 0, .int .i64 0, .int .i64 0, .int .i64 0, .int .i64 0, .bool false, .int .i64 0, .int .i64 0, .string ⟨#[]⟩, .int .i64 0, .int .i64 0, .int .i64 0, .int .i64 0, .int .i64 0, .int .u32 0, .int .i64 0, .int .i64 0, .slice none 0 0, .slice none 0 0, .slice none 0 0] 40)).alloc (.cells #[.slice p n cap] 74) = u from hu.symm, ← hr, ← hh2]
  clear hu hr hh2 HKa
  have HL0 : Hid (Lv u h2 zeroM.toList) := l0
  have HK0 : Hid (Kp (fun _ => False) w u) := k0
  have HU : Hid (u.heap.size = w.heap.size + 2) := z0
  have HA : Hid (Calls _ _ _ u _) := mattempt_ok r xs u c0 HB.out (fun b hb => by have := HU.out; omega)
  clear k0 l0 c0 z0
  refine HA.out.mono ?_
  rintro e9 w1 ⟨hq, k1⟩
  have HK1 : Hid (Kp (fun _ => False) w w1) := HK0.out.trans k1 (fun b hb e => by have := HO.out; omega)
  have HL1 : Hid (Lv w1 h2 zeroM.toList) := HL0.out.keep k1 (fun e => by have := HO.out; omega)
  clear k1 HA
  unfold MtRes at hq
  have HR : Hid (∃ (xa : Array Value) (x : Int), e9 = .returned (.tuple #[.agg xa, .int .i64 x]) ∧ xa.toList.length = 24 ∧ xa.toList.toArray.all (·.oneCell') = true ∧ ∀ w2, Kp (fun b => b = h2) w1 w2 → MtRes xs w (.returned (.tuple #[.agg xa, .int .i64 x])) w2) := by
    cases hm : okM xs with
    | none =>
      rw [hm] at hq
      exact ⟨zeroM, 51, hq, rfl, zeroM_one, fun w2 k => by unfold MtRes; rw [hm]⟩
    | some c =>
      rw [hm] at hq
      obtain ⟨v, he, hmr⟩ := hq
      obtain ⟨xa, hxa, hxl, hx1⟩ := hmr.form
      subst hxa
      refine ⟨xa, 0, he, hxl, hx1, fun w2 k => ?_⟩
      unfold MtRes
      rw [hm]
      exact ⟨_, rfl, (hmr.keep k (fun b hb e => by have := HO.out; have := HU.out; omega)).mono (fun b hb => ⟨by have := HU.out; omega, Nat.lt_of_lt_of_le hb.2 k.size⟩)⟩
  obtain ⟨xa, x, he, hl, h1, hA⟩ := HR.out
  subst he
  have HXl : Hid (xa.toList.length = 24) := hl
  have HX1 : Hid (xa.toList.toArray.all (·.oneCell') = true) := h1
  have HA : Hid (∀ w2, Kp (fun b => b = h2) w1 w2 → MtRes xs w (.returned (.tuple #[.agg xa, .int .i64 x])) w2) := hA
  clear hq HR hl h1 hA
  go_wp2_with (refine wpList_store_all rfl 40 _ _ rfl 24 h2 zeroM.toList xa.toList rfl (by rw [Array.toArray_toList]; rfl) HL1.out szMsg rfl HXl.out HX1.out ?_; intro w2 hl2 k2)
  refine bodyPost_ret (res_cell_tmp Tryd.results16 _ _ h2 _ rfl (hl2.load dsMsg szMsg HXl.out)) rfl ?_
  refine ⟨?_, HK1.out.trans k2 (fun b hb e => by have := HO.out; omega)⟩
  have := HA.out w2 k2
  rw [Array.toArray_toList]
  exact this
end Go.Proofs.YtoepemgflbmlcaaDoor
