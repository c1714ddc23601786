/- cmdReader.cmd: its walk (laid by scripts/mkoe.py). -/
import Derived.Test.YtippipeebkkghaaGreatDoorOd
namespace Go.Proofs.YtippipeebkkghaaGreatDoor
set_option linter.unusedVariables false
set_option linter.unusedSimpArgs false
open Go.RowKit Go.Deep

set_option maxRecDepth 100000 in
set_option maxHeartbeats 6400000 in
theorem rcmd_ok {Z : Nat → Prop} (r : Nat) (xs : List Nat) (w : World) (h : Cu Z w r xs) (hb : ∀ x ∈ xs, x < 256) (hZ : ∀ b, Z b → b < w.heap.size) : Calls Tryz.prog 108 #[.pointer (some ⟨r, 0, none⟩)] w fun e w' => RcmRes Z r xs w e w' ∧ Kp (fun b => b = r) w w' := by
  have hr : r < w.heap.size := by
    obtain ⟨q, m, c, h1, _⟩ := h
    exact World.block_lt_of_cell? _ _ h1
  obtain ⟨h2, hh2⟩ : ∃ x, x = w.heap.size := ⟨_, rfl⟩
  obtain ⟨g, hg⟩ : ∃ x, x = w.heap.size + 1 := ⟨_, rfl⟩
  obtain ⟨u, hu⟩ : ∃ x, x = (w.alloc (.cells zeroC 31)).alloc (.cells zeroC 31) := ⟨_, rfl⟩
  have z1 : (w.alloc (.cells zeroC 31)).heap.size = w.heap.size + 1 := by simp
  have z2 : u.heap.size = w.heap.size + 2 := by rw [hu]; simp
  have k0 : Kp (fun _ => False) w u := by rw [hu]; exact ((Kp.refl _ _).alloc _).alloc _
  have HLh : Hid (Lv u h2 zeroC.toList) := by rw [hu, hh2]; exact (Lv.new w _ _).keep ((Kp.refl (fun _ => False) _).alloc _) id
  have HLg : Hid (Lv u g zeroC.toList) := by rw [hu, hg, ← z1]; exact Lv.new _ _ _
  have HC0 : Hid (Cu Z u r xs) := h.keep k0 id (fun _ _ => id)
  have HK0 : Hid (Kp (fun b => b = r) w u) := k0.mono (fun _ _ e => e.elim)
  have HB : Hid (∀ x ∈ xs, x < 256) := hb
  have HZ : Hid (¬ Z g ∧ ¬ Z h2 ∧ ∀ b, Z b → b < h2) := ⟨fun e => by have := hZ _ e; omega, fun e => by have := hZ _ e; omega, fun b e => by have := hZ _ e; omega⟩
  have HO : Hid (r < h2 ∧ h2 = w.heap.size ∧ g = h2 + 1 ∧ u.heap.size = g + 1 ∧ r ≠ g ∧ h2 ≠ r ∧ h2 ≠ g) := by show _ ∧ _; omega
  have HT : Hid (∀ u1 u2, Kp (fun b => b = r) w u1 → Kp (fun b => b = r ∨ b = g) u1 u2 → Kp (fun b => b = r) w u2) := fun u1 u2 a b => a.trans b (fun c hc e => by
    have := HO.out
    rcases e with e | e
    · exact e
    · omega)
  have HPan : Hid (∀ (a : Act) (w' : World), a.defers = [] → rdCmd xs = none → Kp (fun b => b = r) w w' → bodyPost Tryz.prog Tryz.f108 (fun e w' => RcmRes Z r xs w e w' ∧ Kp (fun b => b = r) w w') (.panic gaveUp) a w') := fun a w' hd hn k => ⟨hd, by unfold RcmRes; rw [hn], k⟩
  have hu' : (w.alloc (.cells #[.int .i64 0, .int .i64 0, .string ⟨#[]⟩, .int .i64 0, .int .i64 0, .int .i64 0, .int .i64 0, .int .i64 0, .int .u32 0, .int .i64 0, .int .i64 0, .slice none 0 0] 31)).alloc (.cells #[.int .i64 0, .int .i64 0, .string ⟨#[]⟩, .int .i64 0, .int .i64 0, .int .i64 0, .int .i64 0, .int .i64 0, .int .u32 0, .int .i64 0, .int .i64 0, .slice none 0 0] 31) = u := hu.symm
  clear h hb hZ hr hu z1 z2 k0
  go_enter Tryz.func108, Tryz.ntmps108
  go_upto_region 2 with fail
  rw [← hg, ← hh2]
  clear hu' hg hh2
  refine rc2_region Z r g xs zeroC.toList (.pointer (some ⟨h2, 0, none⟩)) (by kernel_rfl) rfl ⟨rfl, rfl, rfl, rfl⟩ HB.out HO.out.2.2.2.2.1 HZ.out.1 (by show _ ≤ 12; decide) HC0.out HLg.out ?_ ?_
  · exact fun a w1 hB1 k1 hs1 => HPan.out a w1 hB1.2.2.2 (rdCmd_no1 (seqN_none hs1 (by decide))) (HT.out _ _ HK0.out k1)
  intro q4 q5 q6 q7 q8 q9 q10 q11 q12 q13 w1 t1 k1 s1 c1 l1
  simp only [Act.put, List.setIfInBounds_toArray, List.set_cons_succ, List.set_cons_zero]
  have HL1 : Hid (Lv w1 g (cmdA ⟨(seqV xs 0 : Int), (seqV xs 1 : Int), ⟨#[]⟩, 0, 0, 0, 0, 0, 0, 0, 0⟩ (.slice none 0 0)).toList) := l1
  have HLh1 : Hid (Lv w1 h2 zeroC.toList) := HLh.out.keep k1 (fun e => by have := HO.out; omega)
  have HC1 : Hid (Cu Z w1 r t1) := c1
  have HS1 : Hid (seqN xs 2 = some t1) := s1
  have HB1 : Hid (∀ x ∈ t1, x < 256) := seqN_byte (HB.out) 2 t1 s1
  have HK1 : Hid (Kp (fun b => b = r) w w1) := HT.out _ _ HK0.out k1
  clear l1 k1 c1 s1
  go_upto_region 3 with fail
  refine rc3_region Z r g t1 (cmdA ⟨(seqV xs 0 : Int), (seqV xs 1 : Int), ⟨#[]⟩, 0, 0, 0, 0, 0, 0, 0, 0⟩ (.slice none 0 0)).toList (.pointer (some ⟨h2, 0, none⟩)) (by kernel_rfl) rfl ⟨rfl, rfl, rfl, rfl⟩ HB1.out HO.out.2.2.2.2.1 HZ.out.1 (by show _ ≤ 12; decide) HC1.out HL1.out ?_ ?_
  · exact fun a w1 hB1 k1 hs1 => HPan.out a w1 hB1.2.2.2 (rdCmd_no1 (seqN_none ((seqN_add HS1.out 3).trans hs1) (by decide))) (HT.out _ _ HK1.out k1)
  intro q14 q15 q16 q17 q18 q19 q20 q21 q22 q23 q24 q25 q26 q27 q28 w2 t2 k1 s1 c1 l1
  simp only [Act.put, List.setIfInBounds_toArray, List.set_cons_succ, List.set_cons_zero]
  have HL2 : Hid (Lv w2 g (cmdA ⟨(seqV xs 0 : Int), (seqV xs 1 : Int), ⟨#[]⟩, (seqV t1 0 : Int), (seqV t1 1 : Int), (seqV t1 2 : Int), 0, 0, 0, 0, 0⟩ (.slice none 0 0)).toList) := l1
  have HLh2 : Hid (Lv w2 h2 zeroC.toList) := HLh1.out.keep k1 (fun e => by have := HO.out; omega)
  have HC2 : Hid (Cu Z w2 r t2) := c1
  have HS2 : Hid (seqN t1 3 = some t2) := s1
  have HB2 : Hid (∀ x ∈ t2, x < 256) := seqN_byte (HB1.out) 3 t2 s1
  have HK2 : Hid (Kp (fun b => b = r) w w2) := HT.out _ _ HK1.out k1
  clear l1 k1 c1 s1
  have HS5 : Hid (seqN xs 5 = some t2) := (seqN_add HS1.out 3).trans HS2.out
  go_upto_region 4 with fail
  refine rc4_region Z r g t2 (cmdA ⟨(seqV xs 0 : Int), (seqV xs 1 : Int), ⟨#[]⟩, (seqV t1 0 : Int), (seqV t1 1 : Int), (seqV t1 2 : Int), 0, 0, 0, 0, 0⟩ (.slice none 0 0)).toList (.pointer (some ⟨h2, 0, none⟩)) (by kernel_rfl) rfl ⟨rfl, rfl, rfl, rfl⟩ HB2.out HO.out.2.2.2.2.1 HZ.out.1 (by show _ ≤ 12; decide) HC2.out HL2.out ?_ ?_
  · exact fun a w1 hB1 k1 hs1 => HPan.out a w1 hB1.2.2.2 (rdCmd_no1 ((seqN_add HS5.out 2).trans hs1)) (HT.out _ _ HK2.out k1)
  intro q29 q30 q31 q32 q33 q34 q35 q36 q37 q38 w3 t3 k1 s1 c1 l1
  simp only [Act.put, List.setIfInBounds_toArray, List.set_cons_succ, List.set_cons_zero]
  have HL3 : Hid (Lv w3 g (cmdA ⟨(seqV xs 0 : Int), (seqV xs 1 : Int), ⟨#[]⟩, (seqV t1 0 : Int), (seqV t1 1 : Int), (seqV t1 2 : Int), (seqV t2 0 : Int), (seqV t2 1 : Int), 0, 0, 0⟩ (.slice none 0 0)).toList) := l1
  have HLh3 : Hid (Lv w3 h2 zeroC.toList) := HLh2.out.keep k1 (fun e => by have := HO.out; omega)
  have HC3 : Hid (Cu Z w3 r t3) := c1
  have HS3 : Hid (seqN t2 2 = some t3) := s1
  have HB3 : Hid (∀ x ∈ t3, x < 256) := seqN_byte (HB2.out) 2 t3 s1
  have HK3 : Hid (Kp (fun b => b = r) w w3) := HT.out _ _ HK2.out k1
  clear l1 k1 c1 s1
  have HS7 : Hid (seqN xs 7 = some t3) := (seqN_add HS5.out 2).trans HS3.out
  have H5 : Hid (Calls _ _ _ w3 _) := upTo_ok r 4294967295 t3 w3 HC3.out (by decide) HB3.out
  go_wp2_with fail
  refine H5.out.mono ?_
  rintro e9 w4 ⟨hu, k9⟩
  unfold UpRes at hu
  have HK4 : Hid (Kp (fun b => b = r) w w4) := HK3.out.trans k9 (fun _ _ e => e)
  have HL4a : Hid (Lv w4 g (cmdA ⟨(seqV xs 0 : Int), (seqV xs 1 : Int), ⟨#[]⟩, (seqV t1 0 : Int), (seqV t1 1 : Int), (seqV t1 2 : Int), (seqV t2 0 : Int), (seqV t2 1 : Int), 0, 0, 0⟩ (.slice none 0 0)).toList) := HL3.out.keep k9 (fun e => by have := HO.out; omega)
  have HLh4 : Hid (Lv w4 h2 zeroC.toList) := HLh3.out.keep k9 (fun e => by have := HO.out; omega)
  clear k9 H5
  cases hq : rdNum 4294967295 t3 with
  | none =>
    rw [hq] at hu
    have he : e9 = .panicked gaveUp := hu
    subst he
    exact HPan.out _ _ rfl (rdCmd_no2 HS7.out hq) HK4.out
  | some p =>
  obtain ⟨n4, t4⟩ := p
  rw [hq] at hu
  obtain ⟨he, hc⟩ := hu
  subst he
  have HS4 : Hid (rdNum 4294967295 t3 = some (n4, t4)) := hq
  have HC4 : Hid (Cu Z w4 r t4) := hc
  have HB4 : Hid ((∀ x ∈ t4, x < 256) ∧ n4 ≤ 4294967295) := ⟨(rdNum_back HB3.out hq).2.2.2, (rdNum_back HB3.out hq).2.1⟩
  clear hc hq
  have c8 : w4.cell? ⟨g, 8, none⟩ = some (.int .u32 0) := HL4a.out.cell (j := 8) rfl
  have f8 : w4.frozen? ⟨g, 8, none⟩ = false := HL4a.out.fz (show 8 < 12 by omega)
  have hn4 : (n4 : Int) ≤ 4294967295 := by have := HB4.out; omega
  go_upto_region 6 with fail
  clear c8 f8 hn4
  obtain ⟨w5, hw5⟩ : ∃ x, x = w4.setCell ⟨g, 8, none⟩ (.int .u32 (n4 : Int)) := ⟨_, rfl⟩
  have ks5 : Kp (fun b => b = r ∨ b = g) w4 w5 := by rw [hw5]; show Kp _ _ _; exact (Kp.refl (fun b => b = r ∨ b = g) w4).setCell (fun _ => Or.inr rfl) _
  have ks5g : Kp (fun b => b = g) w4 w5 := by rw [hw5]; show Kp _ _ _; exact (Kp.refl (fun b => b = g) w4).setCell (fun _ => rfl) _
  have HK5 : Hid (Kp (fun b => b = r) w w5) := HT.out _ _ HK4.out ks5
  have HL5a : Hid (Lv w5 g (cmdA ⟨(seqV xs 0 : Int), (seqV xs 1 : Int), ⟨#[]⟩, (seqV t1 0 : Int), (seqV t1 1 : Int), (seqV t1 2 : Int), (seqV t2 0 : Int), (seqV t2 1 : Int), (n4 : Int), 0, 0⟩ (.slice none 0 0)).toList) := by rw [hw5]; exact HL4a.out.set1' 8 _ (show 8 < 12 by omega)
  have HLh5 : Hid (Lv w5 h2 zeroC.toList) := HLh4.out.keep ks5 (fun e => by have := HO.out; omega)
  have HC5 : Hid (Cu Z w5 r t4) := HC4.out.keep ks5g (HO.out.2.2.2.2.1) (fun b hb e => HZ.out.1 (e ▸ hb))
  rw [← hw5]
  clear ks5 ks5g hw5
  refine rc6_region Z r g t4 (cmdA ⟨(seqV xs 0 : Int), (seqV xs 1 : Int), ⟨#[]⟩, (seqV t1 0 : Int), (seqV t1 1 : Int), (seqV t1 2 : Int), (seqV t2 0 : Int), (seqV t2 1 : Int), (n4 : Int), 0, 0⟩ (.slice none 0 0)).toList (.pointer (some ⟨h2, 0, none⟩)) (by kernel_rfl) rfl ⟨rfl, rfl, rfl, rfl⟩ HB4.out.1 HO.out.2.2.2.2.1 HZ.out.1 (by show _ ≤ 12; decide) HC5.out HL5a.out ?_ ?_
  · exact fun a w1 hB1 k1 hs1 => HPan.out a w1 hB1.2.2.2 (rdCmd_no3 HS7.out HS4.out hs1) (HT.out _ _ HK5.out k1)
  intro q45 q46 q47 q48 q49 q50 q51 q52 q53 q54 q55 q56 w6 t5 k1 s1 c1 l1
  simp only [Act.put, List.setIfInBounds_toArray, List.set_cons_succ, List.set_cons_zero]
  have HL6 : Hid (Lv w6 g (cmdA ⟨(seqV xs 0 : Int), (seqV xs 1 : Int), ⟨#[]⟩, (seqV t1 0 : Int), (seqV t1 1 : Int), (seqV t1 2 : Int), (seqV t2 0 : Int), (seqV t2 1 : Int), (n4 : Int), (seqV t4 0 : Int), (seqV t4 1 : Int)⟩ (.slice none 0 0)).toList) := l1
  have HLh6 : Hid (Lv w6 h2 zeroC.toList) := HLh5.out.keep k1 (fun e => by have := HO.out; omega)
  have HC6 : Hid (Cu Z w6 r t5) := c1
  have HS6 : Hid (seqN t4 2 = some t5) := s1
  have HB6 : Hid (∀ x ∈ t5, x < 256) := seqN_byte (HB4.out.1) 2 t5 s1
  have HK6 : Hid (Kp (fun b => b = r) w w6) := HT.out _ _ HK5.out k1
  clear l1 k1 c1 s1
  have H7 : Hid (Calls _ _ _ w6 _) := text_ok r 8 t5 w6 HC6.out (by decide) HB6.out
  go_wp2_with fail
  refine H7.out.mono ?_
  rintro e9 w7 ⟨hu, k9⟩
  unfold TxRes at hu
  have HK7 : Hid (Kp (fun b => b = r) w w7) := HK6.out.trans k9 (fun _ _ e => e)
  have HL7a : Hid (Lv w7 g (cmdA ⟨(seqV xs 0 : Int), (seqV xs 1 : Int), ⟨#[]⟩, (seqV t1 0 : Int), (seqV t1 1 : Int), (seqV t1 2 : Int), (seqV t2 0 : Int), (seqV t2 1 : Int), (n4 : Int), (seqV t4 0 : Int), (seqV t4 1 : Int)⟩ (.slice none 0 0)).toList) := HL6.out.keep k9 (fun e => by have := HO.out; omega)
  have HLh7 : Hid (Lv w7 h2 zeroC.toList) := HLh6.out.keep k9 (fun e => by have := HO.out; omega)
  clear k9 H7
  cases hq : rdText 8 t5 with
  | none =>
    rw [hq] at hu
    have he : e9 = .panicked gaveUp := hu
    subst he
    exact HPan.out _ _ rfl (rdCmd_no4 HS7.out HS4.out HS6.out hq) HK7.out
  | some p =>
  obtain ⟨s, t6⟩ := p
  rw [hq] at hu
  obtain ⟨qs, he, hrb, hc, _⟩ := hu
  subst he
  have HS8 : Hid (rdText 8 t5 = some (s, t6)) := hq
  have HC7 : Hid (Cu Z w7 r t6) := hc
  have HB7 : Hid (∀ x ∈ t6, x < 256) := (rdText_back HB6.out hq).2.2.2
  have hcv := convert_bytes qs s.length s.length s w7 hrb
  clear hc hq hrb
  have c2 : w7.cell? ⟨g, 2, none⟩ = some (.string ⟨#[]⟩) := HL7a.out.cell (j := 2) rfl
  have f2 : w7.frozen? ⟨g, 2, none⟩ = false := HL7a.out.fz (show 2 < 12 by omega)
  go_upto_region 8 with fail
  clear c2 f2 hcv
  obtain ⟨w8, hw8⟩ : ∃ x, x = w7.setCell ⟨g, 2, none⟩ (.string (str s)) := ⟨_, rfl⟩
  have ks8 : Kp (fun b => b = r ∨ b = g) w7 w8 := by rw [hw8]; show Kp _ _ _; exact (Kp.refl (fun b => b = r ∨ b = g) w7).setCell (fun _ => Or.inr rfl) _
  have ks8g : Kp (fun b => b = g) w7 w8 := by rw [hw8]; show Kp _ _ _; exact (Kp.refl (fun b => b = g) w7).setCell (fun _ => rfl) _
  have HK8 : Hid (Kp (fun b => b = r) w w8) := HT.out _ _ HK7.out ks8
  have HL8 : Hid (Lv w8 g ((cmdA ⟨(seqV xs 0 : Int), (seqV xs 1 : Int), (str s), (seqV t1 0 : Int), (seqV t1 1 : Int), (seqV t1 2 : Int), (seqV t2 0 : Int), (seqV t2 1 : Int), (n4 : Int), (seqV t4 0 : Int), (seqV t4 1 : Int)⟩ (.slice none 0 0)).toList)) := by rw [hw8]; exact HL7a.out.set1' 2 _ (show 2 < 12 by omega)
  have HLh8 : Hid (Lv w8 h2 zeroC.toList) := HLh7.out.keep ks8 (fun e => by have := HO.out; omega)
  have HC8 : Hid (Cu Z w8 r t6) := HC7.out.keep ks8g (HO.out.2.2.2.2.1) (fun b hb e => HZ.out.1 (e ▸ hb))
  rw [← hw8]
  clear ks8 ks8g hw8
  have H8 : Hid (Calls _ _ _ w8 _) := upTo_ok r 255 t6 w8 HC8.out (by decide) HB7.out
  go_wp2_with fail
  refine H8.out.mono ?_
  rintro e9 w9 ⟨hu, k9⟩
  unfold UpRes at hu
  have HK9 : Hid (Kp (fun b => b = r) w w9) := HK8.out.trans k9 (fun _ _ e => e)
  have HL9 : Hid (Lv w9 g ((cmdA ⟨(seqV xs 0 : Int), (seqV xs 1 : Int), (str s), (seqV t1 0 : Int), (seqV t1 1 : Int), (seqV t1 2 : Int), (seqV t2 0 : Int), (seqV t2 1 : Int), (n4 : Int), (seqV t4 0 : Int), (seqV t4 1 : Int)⟩ (.slice none 0 0)).toList)) := HL8.out.keep k9 (fun e => by have := HO.out; omega)
  have HLh9 : Hid (Lv w9 h2 zeroC.toList) := HLh8.out.keep k9 (fun e => by have := HO.out; omega)
  clear k9 H8
  cases hq : rdNum 255 t6 with
  | none =>
    rw [hq] at hu
    have he : e9 = .panicked gaveUp := hu
    subst he
    exact HPan.out _ _ rfl (rdCmd_no5 HS7.out HS4.out HS6.out HS8.out hq) HK9.out
  | some p =>
  obtain ⟨n, t7⟩ := p
  rw [hq] at hu
  obtain ⟨he, hc⟩ := hu
  subst he
  have HS9 : Hid (rdNum 255 t6 = some (n, t7)) := hq
  have HC9 : Hid (Cu Z w9 r t7) := hc
  have HB9 : Hid ((∀ x ∈ t7, x < 256) ∧ n ≤ 255) := ⟨(rdNum_back HB7.out hq).2.2.2, (rdNum_back HB7.out hq).2.1⟩
  have hn : (n : Int) ≤ 255 := by have := HB9.out; omega
  have HU9 : Hid (g + 1 ≤ w9.heap.size) := by
    have h1 := HL9.out.lt (by show 0 < 12; decide)
    show _ ≤ _
    omega
  clear hc hq
  go_wp2_with fail
  go_loopg [67] n (fun gk iv wz => ∃ (k : Nat) (tk : List Nat) (v : Value), k ≤ n ∧ gk = n - k ∧ iv = .int .i64 k ∧ Hid (seqN t7 k = some tk ∧ Cu Z wz r tk ∧ OwI wz (g + 1) v (intsOf ((List.range k).map (seqV t7))) ∧ Lv wz g ((cmdA ⟨(seqV xs 0 : Int), (seqV xs 1 : Int), (str s), (seqV t1 0 : Int), (seqV t1 1 : Int), (seqV t1 2 : Int), (seqV t2 0 : Int), (seqV t2 1 : Int), (n4 : Int), (seqV t4 0 : Int), (seqV t4 1 : Int)⟩ v).toList) ∧ Lv wz h2 zeroC.toList ∧ Kp (fun b => b = r) w wz ∧ g + 1 ≤ wz.heap.size))
  case atStart => exact ⟨0, t7, .slice none 0 0, Nat.zero_le _, rfl, rfl, rfl, HC9.out, World.ownsRow_nil _ _ _ _, HL9.out, HLh9.out, HK9.out, HU9.out⟩
  case round =>
    obtain ⟨k, tk, v, hk, rfl, rfl, HR⟩ := hrel
    by_cases hlt : (k : Int) < (n : Int)
    · have HKi : Hid (wrap64 ((k : Int) + 1) = ((k + 1 : Nat) : Int)) := (by show _ = _; unfold wrap64; omega)
      have HBk : Hid (∀ x ∈ tk, x < 256) := seqN_byte HB9.out.1 k tk HR.out.1
      go_upto_region 10 with fail
      refine rca_region (fun z => Cu Z z r tk) (fun z => ∃ t, seqN t7 (k + 1) = some t ∧ Cu Z z r t) r g (g + 1) v (intsOf ((List.range k).map (seqV t7))) (fun z => z = ((seqV t7 k : Nat) : Int)) (cmdA ⟨(seqV xs 0 : Int), (seqV xs 1 : Int), (str s), (seqV t1 0 : Int), (seqV t1 1 : Int), (seqV t1 2 : Int), (seqV t2 0 : Int), (seqV t2 1 : Int), (n4 : Int), (seqV t4 0 : Int), (seqV t4 1 : Int)⟩ v).toList (.pointer (some ⟨h2, 0, none⟩)) _ _ (by kernel_rfl) rfl ⟨rfl, rfl, rfl, rfl, rfl, rfl⟩ ⟨fun u1 u2 ku hu => hu.keep ku id (fun _ _ => id), fun u1 u2 ku hu => ?_, fun u1 hu => ?_, ?_, Nat.lt_succ_self _, HO.out.2.2.2.2.1, ?_, ?_, (by show _ < 12; decide), rfl⟩ HR.out.2.1 HR.out.2.2.2.1 HR.out.2.2.1 ?_
      · obtain ⟨t, ht, hu⟩ := hu
        refine ⟨t, ht, hu.keep ku (fun e => by have := HO.out; omega) (fun b hb e => by have := HO.out; have := HZ.out.2.2 b hb; omega)⟩
      · refine (number_ok r tk u1 hu HBk.out).mono ?_
        rintro e9 u2 ⟨hq, k2⟩
        refine ⟨k2, ?_⟩
        unfold UpRes at hq
        cases hm : rdNum 1152921504606846976 tk with
        | none =>
          rw [hm] at hq
          refine Or.inr ⟨gaveUp, hq, fun a hB kw => ?_⟩
          have hno : seqN t7 n = none := by
            refine seqN_none (i := k + 1) ?_ (by omega)
            show (seqN t7 k).bind _ = none
            rw [HR.out.1]
            show (rdNum _ tk).map _ = none
            rw [hm]
            rfl
          refine HPan.out a u2 hB.2.2.2.2.2 (rdCmd_no6 HS7.out HS4.out HS6.out HS8.out HS9.out hno) ?_
          refine HR.out.2.2.2.2.2.1.trans (((Kp.refl (fun b => b = r ∨ b = g ∨ g + 1 ≤ b) _).drew).trans kw (fun _ _ e => e)) (fun b hb e => ?_)
          have := HO.out
          rcases e with e | e | e
          · exact e
          · omega
          · omega
        | some p =>
          obtain ⟨m, t⟩ := p
          rw [hm] at hq
          obtain ⟨e1, e2⟩ := seqN_step HR.out.1 hm
          exact Or.inl ⟨_, rfl, by rw [e2]; exact hq.1, t, e1, hq.2⟩
      · have := HO.out; omega
      · show (intsOf _).length ≤ 1000
        unfold intsOf
        rw [List.length_map, List.length_map, List.length_range]
        omega
      · exact HR.out.2.2.2.2.2.2
      · intro q69 q70 q71 q72 q73 q74 q75 q76 q77 wz vz z kz hp hz ho hl
        simp only [Act.put, List.setIfInBounds_toArray, List.set_cons_succ, List.set_cons_zero]
        obtain ⟨t, ht, hcz⟩ := hp
        have HZr : Hid (seqN t7 (k + 1) = some t ∧ Cu Z wz r t ∧ OwI wz (g + 1) vz (intsOf ((List.range (k + 1)).map (seqV t7))) ∧ Lv wz g ((cmdA ⟨(seqV xs 0 : Int), (seqV xs 1 : Int), (str s), (seqV t1 0 : Int), (seqV t1 1 : Int), (seqV t1 2 : Int), (seqV t2 0 : Int), (seqV t2 1 : Int), (n4 : Int), (seqV t4 0 : Int), (seqV t4 1 : Int)⟩ vz).toList) ∧ Lv wz h2 zeroC.toList ∧ Kp (fun b => b = r) w wz ∧ g + 1 ≤ wz.heap.size) := by
          refine ⟨ht, hcz, ?_, hl, HR.out.2.2.2.2.1.keep kz (fun e => by have := HO.out; omega), HR.out.2.2.2.2.2.1.trans kz (fun b hb e => ?_), Nat.le_trans HR.out.2.2.2.2.2.2 kz.size⟩
          · rw [hz] at ho
            unfold intsOf at ho ⊢
            rw [List.range_succ, List.map_append, List.map_append]
            exact ho
          · have := HO.out
            rcases e with e | e | e
            · exact e
            · omega
            · omega
        clear hcz ho hl hz ht kz
        go_wp2_with fail
        go_roundg (n - (k + 1))
        case rel => exact ⟨k + 1, t, vz, by omega, rfl, by first | rw [HKi.out] | rfl | go_num, HZr.out⟩
        case measure => omega
    · have hkn : k = n := by omega
      subst hkn
      obtain ⟨q, cap, rfl, hfl⟩ := own_fl HR.out.2.2.1
      have HFl : Hid (Fl wr (fun b => g + 1 ≤ b ∧ b < wr.heap.size) q ((intsOf ((List.range k).map (seqV t7))).map encI)) := hfl
      have HLen : Hid ((intsOf ((List.range k).map (seqV t7))).length = k) := by show _ = _; unfold intsOf; rw [List.length_map, List.length_map, List.length_range]
      have HOn : Hid (((cmdA ⟨(seqV xs 0 : Int), (seqV xs 1 : Int), (str s), (seqV t1 0 : Int), (seqV t1 1 : Int), (seqV t1 2 : Int), (seqV t2 0 : Int), (seqV t2 1 : Int), (n4 : Int), (seqV t4 0 : Int), (seqV t4 1 : Int)⟩ (.slice q (intsOf ((List.range k).map (seqV t7))).length cap)).toList).toArray.all (·.oneCell') = true) := cmd_one _ rfl
      clear hfl
      go_wp2_with (first
        | (refine wpList_load_all rfl 31 _ rfl 12 g ((cmdA ⟨(seqV xs 0 : Int), (seqV xs 1 : Int), (str s), (seqV t1 0 : Int), (seqV t1 1 : Int), (seqV t1 2 : Int), (seqV t2 0 : Int), (seqV t2 1 : Int), (n4 : Int), (seqV t4 0 : Int), (seqV t4 1 : Int)⟩ (.slice q (intsOf ((List.range k).map (seqV t7))).length cap)).toList) rfl HR.out.2.2.2.1 dsCmd szCmd rfl ?_)
        | (refine wpList_store_all rfl 31 _ _ rfl 12 h2 zeroC.toList ((cmdA ⟨(seqV xs 0 : Int), (seqV xs 1 : Int), (str s), (seqV t1 0 : Int), (seqV t1 1 : Int), (seqV t1 2 : Int), (seqV t2 0 : Int), (seqV t2 1 : Int), (n4 : Int), (seqV t4 0 : Int), (seqV t4 1 : Int)⟩ (.slice q (intsOf ((List.range k).map (seqV t7))).length cap)).toList) rfl rfl HR.out.2.2.2.2.1 szCmd rfl rfl HOn.out ?_; intro w3 hl3 k3))
      have ka : Kp (fun b => b = r) w w3 := HR.out.2.2.2.2.2.1.trans k3 (fun b hb e => by have := HO.out; omega)
      have hfl3 : Fl w3 (fun b => w.heap.size ≤ b ∧ b < w3.heap.size) q ((intsOf ((List.range k).map (seqV t7))).map encI) := (HFl.out.keep k3 (fun b hb e => by have := HO.out; omega)).mono (fun b hb => ⟨by have := HO.out; omega, Nat.lt_of_lt_of_le hb.2 k3.size⟩)
      have hc3 : Cu Z w3 r tk := HR.out.2.1.keep k3 (fun e => by have := HO.out; omega) (fun b hb e => HZ.out.2.1 (e ▸ hb))
      refine bodyPost_ret (res_cell Tryz.results108 _ _ h2 _ rfl (hl3.load dsCmd szCmd rfl)) rfl ?_
      refine ⟨?_, ka⟩
      unfold RcmRes
      rw [rdCmd_yes HS7.out HS4.out HS6.out HS8.out HS9.out HR.out.1]
      dsimp only
      rw [show seqV xs 2 = seqV t1 0 from seqV_add HS1.out 0, show seqV xs 3 = seqV t1 1 from seqV_add HS1.out 1, show seqV xs 4 = seqV t1 2 from seqV_add HS1.out 2, show seqV xs 5 = seqV t2 0 from seqV_add HS5.out 0, show seqV xs 6 = seqV t2 1 from seqV_add HS5.out 1]
      refine ⟨q, cap, ?_, hfl3, hc3⟩
      rw [HLen.out, List.length_map, List.length_range]
      rfl
end Go.Proofs.YtippipeebkkghaaGreatDoor
