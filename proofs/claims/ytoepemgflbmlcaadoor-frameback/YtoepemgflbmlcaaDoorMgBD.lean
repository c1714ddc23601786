/- Texts of this proof, joined: Ol, Oh. -/
import Derived.Test.YtoepemgflbmlcaaDoorMgBC
import Derived.Test.YtoepemgflbmlcaaDoorMgAS
import Derived.Test.YtoepemgflbmlcaaDoorMgAY
import Derived.Defers
import Derived.Recover
/- The document's Reader.cmd (laid by scripts/mkol.py). -/
namespace Go.Proofs.YtoepemgflbmlcaaDoor
set_option linter.unusedVariables false
set_option linter.unusedSimpArgs false
open Go.RowKit Go.Deep

theorem Ru.keep {Z S : Nat → Prop} {w w' : World} {r : Nat} {st : Option (List Nat)} (h : Ru Z w r st) (k : Kp S w w') (hr : ¬ S r) (hS : ∀ b, Z b → ¬ S b) : Ru Z w' r st := by
  obtain ⟨⟨q, m, c, h1, h2, h3, h4, h5⟩, hb, hf⟩ := h
  have hlt : r < w.heap.size := World.block_lt_of_cell? _ _ h1
  refine ⟨⟨q, m, c, k.cellv h1 hr, ?_, h3, h4, fun xs e => ⟨(h5 xs e).1.keepP k (fun a ha hp => hS _ ((h5 xs e).2 a ha hp).2), (h5 xs e).2⟩⟩, k.cellv hb hr, ?_⟩
  · rw [← h2]
    exact World.frozen?_of_block (w := w) (k.block r hlt hr)
  · rw [← hf]
    exact World.frozen?_of_block (w := w) (k.block r hlt hr)
/-- what the document's Reader.cmd answers -/
def XcRes (Z : Nat → Prop) (r : Nat) (st : Option (List Nat)) (w : World) (e : Ending) (w' : World) : Prop := match rdX st with
  | some (c, t) => ∃ q cap, e = .returned (.agg (cmdA (csOf c) (.slice q c.nodes.length cap))) ∧ Fl w' (fun b => w.heap.size ≤ b ∧ b < w'.heap.size) q ((intsOf c.nodes).map encI) ∧ Ru Z w' r (some t)
  | none => (∃ cs0 q n cap, e = .returned (.agg (cmdA cs0 (.slice q n cap)))) ∧ Ru Z w' r none
theorem rdX_none {st : Option (List Nat)} (h : stF st = none) : rdX st = none := by
  unfold rdX
  cases st with
  | none => rfl
  | some xs =>
    show (rdCmd xs).bind _ = none
    rw [stF_none h]
    rfl
theorem rdX_great {st : Option (List Nat)} {t : List Nat} (h : stF st = some t) (hs : 4294967295 < sumO st) : rdX st = none := by
  obtain ⟨xs, rfl, h1, h2⟩ := stF_some h
  show (rdCmd xs).bind _ = none
  rw [h2 hs]
  rfl
theorem rdX_may {st : Option (List Nat)} {t : List Nat} (h : stF st = some t) (hs : sumO st ≤ 4294967295) : rdX st = if mayC (csOf (cpO st)) (intsOf (cpO st).nodes) = true then some (cpO st, t) else none := by
  obtain ⟨xs, e, h1, h2⟩ := stF_some h
  have h3 : st.bind rdCmd = some (cpO st, t) := by
    rw [← h1 hs, e]
    rfl
  unfold rdX
  rw [h3]
  rfl
theorem stF_13 {st : Option (List Nat)} {t : List Nat} (h : stF st = some t) : (st13 st).isSome = true ∧ (st12 st).isSome = true ∧ (st10 st).isSome = true ∧ (st8 st).isSome = true ∧ (itO st 7).isSome = true := by
  obtain ⟨t7, e13, h6⟩ := itO_some h
  obtain ⟨t6, e12, h5⟩ := nxtO_some e13
  obtain ⟨u5, e11, hn, et6, hk⟩ := takeO_some e12
  obtain ⟨t5, e10, h4⟩ := nxtO_some e11
  obtain ⟨t4, e8, h3⟩ := itO_some e10
  obtain ⟨t3, e7, h2⟩ := nxtO_some e8
  rw [e13, e12, e10, e8, e7]
  exact ⟨rfl, rfl, rfl, rfl, rfl⟩
theorem nxtO_isSome {most : Nat} {st : Option (List Nat)} (h : (nxtO most st).isSome = true) : st.isSome = true := by
  cases st with
  | none => cases h
  | some x => rfl
theorem itO_isSome {st : Option (List Nat)} {i j : Nat} (hij : i ≤ j) (h : (itO st j).isSome = true) : (itO st i).isSome = true := by
  obtain ⟨d, rfl⟩ := Nat.le.dest hij
  clear hij
  induction d with
  | zero => exact h
  | succ d ih => exact ih (nxtO_isSome (most := 1152921504606846976) h)

set_option maxRecDepth 100000 in
set_option maxHeartbeats 6400000 in
theorem xcmd_ok {Z : Nat → Prop} (r : Nat) (st : Option (List Nat)) (w : World) (h : Ru Z w r st) (hb : Byt st) (hZ : ∀ b, Z b → b < w.heap.size) : Calls Tryd.prog 33 #[.pointer (some ⟨r, 0, none⟩)] w fun e w' => XcRes Z r st w e w' ∧ Kp (fun b => b = r) w w' := by
  have hr : r < w.heap.size := World.block_lt_of_cell? _ _ h.b
  obtain ⟨h2, hh2⟩ : ∃ x, x = w.heap.size := ⟨_, rfl⟩
  obtain ⟨g, hg⟩ : ∃ x, x = w.heap.size + 1 := ⟨_, rfl⟩
  obtain ⟨u, hu⟩ : ∃ x, x = (w.alloc (.cells zeroC 27)).alloc (.cells zeroC 27) := ⟨_, rfl⟩
  have z1 : (w.alloc (.cells zeroC 27)).heap.size = w.heap.size + 1 := by simp
  have z2 : u.heap.size = w.heap.size + 2 := by rw [hu]; simp
  have k0 : Kp (fun _ => False) w u := by rw [hu]; exact ((Kp.refl _ _).alloc _).alloc _
  have HLh0 : Hid (Lv u h2 zeroC.toList) := by rw [hu, hh2]; exact (Lv.new w _ _).keep ((Kp.refl (fun _ => False) _).alloc _) id
  have HL0 : Hid (Lv u g zeroC.toList) := by rw [hu, hg, ← z1]; exact Lv.new _ _ _
  have HR0 : Hid (Ru Z u r st) := h.keep k0 id (fun _ _ => id)
  have HK0 : Hid (Kp (fun b => b = r) w u) := k0.mono (fun _ _ e => e.elim)
  have HB : Hid (Byt st) := hb
  have HZ : Hid (¬ Z g ∧ ¬ Z h2 ∧ ∀ b, Z b → b < h2) := ⟨fun e => by have := hZ _ e; omega, fun e => by have := hZ _ e; omega, fun b e => by have := hZ _ e; omega⟩
  have HO : Hid (r < h2 ∧ h2 = w.heap.size ∧ g = h2 + 1 ∧ u.heap.size = g + 1 ∧ r ≠ g ∧ h2 ≠ r ∧ h2 ≠ g) := by show _ ∧ _; omega
  have HTg : Hid (∀ u1 u2, Kp (fun b => b = r) w u1 → Kp (fun b => b = g) u1 u2 → Kp (fun b => b = r) w u2) := fun u1 u2 a b => a.trans b (fun c hc e => by
    have := HO.out
    omega)
  have hu' : (w.alloc (.cells #[.int .i64 0, .int .i64 0, .string ⟨#[]⟩, .int .i64 0, .int .i64 0, .int .i64 0, .int .i64 0, .int .i64 0, .int .u32 0, .int .i64 0, .int .i64 0, .slice none 0 0] 27)).alloc (.cells #[.int .i64 0, .int .i64 0, .string ⟨#[]⟩, .int .i64 0, .int .i64 0, .int .i64 0, .int .i64 0, .int .i64 0, .int .u32 0, .int .i64 0, .int .i64 0, .slice none 0 0] 27) = u := hu.symm
  clear h hb hZ hr hu z1 z2 k0
  go_enter Tryd.func33, Tryd.ntmps33
  go_upto_region 2 with fail
  rw [← hg, ← hh2]
  clear hu' hg hh2
  have HC : Hid (Calls _ _ _ u _) := readNum2 r (itO st 0) u HR0.out (HB.out.it 0)
  go_wp2_with fail
  refine HC.out.mono ?_
  rintro e9 w1 ⟨z0, rfl, hru, hz, kk⟩
  have HR1 : Hid (Ru Z w1 r (itO st 1)) := hru
  have Hz0 : Hid ((itO st 1).isSome = true → z0 = (vlO 1152921504606846976 (itO st 0) : Int)) := hz
  have HK1 : Hid (Kp (fun b => b = r) w w1) := HK0.out.trans kk (fun _ _ e => e)
  have HL1 : Hid (Lv w1 g (cmdA ⟨0, 0, ⟨#[]⟩, 0, 0, 0, 0, 0, 0, 0, 0⟩ (.slice none 0 0)).toList) := HL0.out.keep kk (fun e => by have := HO.out; omega)
  have HLh1 : Hid (Lv w1 h2 zeroC.toList) := HLh0.out.keep kk (fun e => by have := HO.out; omega)
  clear hru hz kk HC HR0 HL0 HLh0 HK0
  have HC : Hid (Calls _ _ _ w1 _) := readNum2 r (itO st 1) w1 HR1.out (HB.out.it 1)
  go_wp2_with fail
  refine HC.out.mono ?_
  rintro e9 w2 ⟨z1, rfl, hru, hz, kk⟩
  have HR2 : Hid (Ru Z w2 r (itO st 2)) := hru
  have Hz1 : Hid ((itO st 2).isSome = true → z1 = (vlO 1152921504606846976 (itO st 1) : Int)) := hz
  have HK2 : Hid (Kp (fun b => b = r) w w2) := HK1.out.trans kk (fun _ _ e => e)
  have HL2 : Hid (Lv w2 g (cmdA ⟨0, 0, ⟨#[]⟩, 0, 0, 0, 0, 0, 0, 0, 0⟩ (.slice none 0 0)).toList) := HL1.out.keep kk (fun e => by have := HO.out; omega)
  have HLh2 : Hid (Lv w2 h2 zeroC.toList) := HLh1.out.keep kk (fun e => by have := HO.out; omega)
  clear hru hz kk HC HR1 HL1 HLh1 HK1
  have HC : Hid (Calls _ _ _ w2 _) := readNum2 r (itO st 2) w2 HR2.out (HB.out.it 2)
  go_wp2_with fail
  refine HC.out.mono ?_
  rintro e9 w3 ⟨z2, rfl, hru, hz, kk⟩
  have HR3 : Hid (Ru Z w3 r (itO st 3)) := hru
  have Hz2 : Hid ((itO st 3).isSome = true → z2 = (vlO 1152921504606846976 (itO st 2) : Int)) := hz
  have HK3 : Hid (Kp (fun b => b = r) w w3) := HK2.out.trans kk (fun _ _ e => e)
  have HL3 : Hid (Lv w3 g (cmdA ⟨0, 0, ⟨#[]⟩, 0, 0, 0, 0, 0, 0, 0, 0⟩ (.slice none 0 0)).toList) := HL2.out.keep kk (fun e => by have := HO.out; omega)
  have HLh3 : Hid (Lv w3 h2 zeroC.toList) := HLh2.out.keep kk (fun e => by have := HO.out; omega)
  clear hru hz kk HC HR2 HL2 HLh2 HK2
  have HC : Hid (Calls _ _ _ w3 _) := readNum2 r (itO st 3) w3 HR3.out (HB.out.it 3)
  go_wp2_with fail
  refine HC.out.mono ?_
  rintro e9 w4 ⟨z3, rfl, hru, hz, kk⟩
  have HR4 : Hid (Ru Z w4 r (itO st 4)) := hru
  have Hz3 : Hid ((itO st 4).isSome = true → z3 = (vlO 1152921504606846976 (itO st 3) : Int)) := hz
  have HK4 : Hid (Kp (fun b => b = r) w w4) := HK3.out.trans kk (fun _ _ e => e)
  have HL4 : Hid (Lv w4 g (cmdA ⟨0, 0, ⟨#[]⟩, 0, 0, 0, 0, 0, 0, 0, 0⟩ (.slice none 0 0)).toList) := HL3.out.keep kk (fun e => by have := HO.out; omega)
  have HLh4 : Hid (Lv w4 h2 zeroC.toList) := HLh3.out.keep kk (fun e => by have := HO.out; omega)
  clear hru hz kk HC HR3 HL3 HLh3 HK3
  have HC : Hid (Calls _ _ _ w4 _) := readNum2 r (itO st 4) w4 HR4.out (HB.out.it 4)
  go_wp2_with fail
  refine HC.out.mono ?_
  rintro e9 w5 ⟨z4, rfl, hru, hz, kk⟩
  have HR5 : Hid (Ru Z w5 r (itO st 5)) := hru
  have Hz4 : Hid ((itO st 5).isSome = true → z4 = (vlO 1152921504606846976 (itO st 4) : Int)) := hz
  have HK5 : Hid (Kp (fun b => b = r) w w5) := HK4.out.trans kk (fun _ _ e => e)
  have HL5 : Hid (Lv w5 g (cmdA ⟨0, 0, ⟨#[]⟩, 0, 0, 0, 0, 0, 0, 0, 0⟩ (.slice none 0 0)).toList) := HL4.out.keep kk (fun e => by have := HO.out; omega)
  have HLh5 : Hid (Lv w5 h2 zeroC.toList) := HLh4.out.keep kk (fun e => by have := HO.out; omega)
  clear hru hz kk HC HR4 HL4 HLh4 HK4
  have c0 : w5.cell? ⟨g, 0, none⟩ = some (.int .i64 0) := HL5.out.cell (j := 0) rfl
  have f0 : w5.frozen? ⟨g, 0, none⟩ = false := HL5.out.fz (show 0 < 12 by omega)
  have c1 : w5.cell? ⟨g, 1, none⟩ = some (.int .i64 0) := HL5.out.cell (j := 1) rfl
  have f1 : w5.frozen? ⟨g, 1, none⟩ = false := HL5.out.fz (show 1 < 12 by omega)
  have c3 : w5.cell? ⟨g, 3, none⟩ = some (.int .i64 0) := HL5.out.cell (j := 3) rfl
  have f3 : w5.frozen? ⟨g, 3, none⟩ = false := HL5.out.fz (show 3 < 12 by omega)
  have c4 : w5.cell? ⟨g, 4, none⟩ = some (.int .i64 0) := HL5.out.cell (j := 4) rfl
  have f4 : w5.frozen? ⟨g, 4, none⟩ = false := HL5.out.fz (show 4 < 12 by omega)
  have c5 : w5.cell? ⟨g, 5, none⟩ = some (.int .i64 0) := HL5.out.cell (j := 5) rfl
  have f5 : w5.frozen? ⟨g, 5, none⟩ = false := HL5.out.fz (show 5 < 12 by omega)
  go_upto_region 3 with fail
  clear c0 f0 c1 f1 c3 f3 c4 f4 c5 f5
  obtain ⟨w6, hw⟩ : ∃ x, x = (((((w5.setCell ⟨g, 0, none⟩ (.int .i64 (z0))).setCell ⟨g, 1, none⟩ (.int .i64 (z1))).setCell ⟨g, 3, none⟩ (.int .i64 (z2))).setCell ⟨g, 4, none⟩ (.int .i64 (z3))).setCell ⟨g, 5, none⟩ (.int .i64 (z4))) := ⟨_, rfl⟩
  have HL6 : Hid (Lv w6 g (cmdA ⟨z0, z1, ⟨#[]⟩, z2, z3, z4, 0, 0, 0, 0, 0⟩ (.slice none 0 0)).toList) := by rw [hw]; exact (((((HL5.out.set1' 0 _ (by show _ < 12; omega)).set1' 1 _ (by show _ < 12; omega)).set1' 3 _ (by show _ < 12; omega)).set1' 4 _ (by show _ < 12; omega)).set1' 5 _ (by show _ < 12; omega))
  have ks : Kp (fun b => b = g) w5 w6 := by rw [hw]; show Kp _ _ _; exact (((((Kp.refl (fun b => b = g) w5).setCell (fun _ => rfl) _).setCell (fun _ => rfl) _).setCell (fun _ => rfl) _).setCell (fun _ => rfl) _).setCell (fun _ => rfl) _
  have HK6 : Hid (Kp (fun b => b = r) w w6) := HTg.out _ _ HK5.out ks
  have HLh6 : Hid (Lv w6 h2 zeroC.toList) := HLh5.out.keep ks (fun e => by have := HO.out; omega)
  have HR6 : Hid (Ru Z w6 r (itO st 5)) := HR5.out.keep ks HO.out.2.2.2.2.1 (fun b hb e => HZ.out.1 (e ▸ hb))
  rw [← hw]
  clear ks hw HK5 HL5 HLh5 HR5
  have HC : Hid (Calls _ _ _ w6 _) := readNum2 r (itO st 5) w6 HR6.out (HB.out.it 5)
  go_wp2_with fail
  refine HC.out.mono ?_
  rintro e9 w7 ⟨z5, rfl, hru, hz, kk⟩
  have HR7 : Hid (Ru Z w7 r (itO st 6)) := hru
  have Hz5 : Hid ((itO st 6).isSome = true → z5 = (vlO 1152921504606846976 (itO st 5) : Int)) := hz
  have HK7 : Hid (Kp (fun b => b = r) w w7) := HK6.out.trans kk (fun _ _ e => e)
  have HL7 : Hid (Lv w7 g (cmdA ⟨z0, z1, ⟨#[]⟩, z2, z3, z4, 0, 0, 0, 0, 0⟩ (.slice none 0 0)).toList) := HL6.out.keep kk (fun e => by have := HO.out; omega)
  have HLh7 : Hid (Lv w7 h2 zeroC.toList) := HLh6.out.keep kk (fun e => by have := HO.out; omega)
  clear hru hz kk HC HR6 HL6 HLh6 HK6
  have HC : Hid (Calls _ _ _ w7 _) := readNum2 r (itO st 6) w7 HR7.out (HB.out.it 6)
  go_wp2_with fail
  refine HC.out.mono ?_
  rintro e9 w8 ⟨z6, rfl, hru, hz, kk⟩
  have HR8 : Hid (Ru Z w8 r (itO st 7)) := hru
  have Hz6 : Hid ((itO st 7).isSome = true → z6 = (vlO 1152921504606846976 (itO st 6) : Int)) := hz
  have HK8 : Hid (Kp (fun b => b = r) w w8) := HK7.out.trans kk (fun _ _ e => e)
  have HL8 : Hid (Lv w8 g (cmdA ⟨z0, z1, ⟨#[]⟩, z2, z3, z4, 0, 0, 0, 0, 0⟩ (.slice none 0 0)).toList) := HL7.out.keep kk (fun e => by have := HO.out; omega)
  have HLh8 : Hid (Lv w8 h2 zeroC.toList) := HLh7.out.keep kk (fun e => by have := HO.out; omega)
  clear hru hz kk HC HR7 HL7 HLh7 HK7
  have c6 : w8.cell? ⟨g, 6, none⟩ = some (.int .i64 0) := HL8.out.cell (j := 6) rfl
  have f6 : w8.frozen? ⟨g, 6, none⟩ = false := HL8.out.fz (show 6 < 12 by omega)
  have c7 : w8.cell? ⟨g, 7, none⟩ = some (.int .i64 0) := HL8.out.cell (j := 7) rfl
  have f7 : w8.frozen? ⟨g, 7, none⟩ = false := HL8.out.fz (show 7 < 12 by omega)
  go_upto_region 4 with fail
  clear c6 f6 c7 f7
  obtain ⟨w9, hw⟩ : ∃ x, x = ((w8.setCell ⟨g, 6, none⟩ (.int .i64 (z5))).setCell ⟨g, 7, none⟩ (.int .i64 (z6))) := ⟨_, rfl⟩
  have HL9 : Hid (Lv w9 g (cmdA ⟨z0, z1, ⟨#[]⟩, z2, z3, z4, z5, z6, 0, 0, 0⟩ (.slice none 0 0)).toList) := by rw [hw]; exact ((HL8.out.set1' 6 _ (by show _ < 12; omega)).set1' 7 _ (by show _ < 12; omega))
  have ks : Kp (fun b => b = g) w8 w9 := by rw [hw]; show Kp _ _ _; exact ((Kp.refl (fun b => b = g) w8).setCell (fun _ => rfl) _).setCell (fun _ => rfl) _
  have HK9 : Hid (Kp (fun b => b = r) w w9) := HTg.out _ _ HK8.out ks
  have HLh9 : Hid (Lv w9 h2 zeroC.toList) := HLh8.out.keep ks (fun e => by have := HO.out; omega)
  have HR9 : Hid (Ru Z w9 r (itO st 7)) := HR8.out.keep ks HO.out.2.2.2.2.1 (fun b hb e => HZ.out.1 (e ▸ hb))
  rw [← hw]
  clear ks hw HK8 HL8 HLh8 HR8
  have HC : Hid (Calls _ _ _ w9 _) := readNum2 r (itO st 7) w9 HR9.out (HB.out.it 7)
  go_wp2_with fail
  refine HC.out.mono ?_
  rintro e9 w10 ⟨z7, rfl, hru, hz, kk⟩
  have HR10 : Hid (Ru Z w10 r (st8 st)) := hru
  have Hz7 : Hid ((st8 st).isSome = true → z7 = (vlO 1152921504606846976 (itO st 7) : Int)) := hz
  have HK10 : Hid (Kp (fun b => b = r) w w10) := HK9.out.trans kk (fun _ _ e => e)
  have HL10 : Hid (Lv w10 g (cmdA ⟨z0, z1, ⟨#[]⟩, z2, z3, z4, z5, z6, 0, 0, 0⟩ (.slice none 0 0)).toList) := HL9.out.keep kk (fun e => by have := HO.out; omega)
  have HLh10 : Hid (Lv w10 h2 zeroC.toList) := HLh9.out.keep kk (fun e => by have := HO.out; omega)
  clear hru hz kk HC HR9 HL9 HLh9 HK9
  have c8 : w10.cell? ⟨g, 8, none⟩ = some (.int .u32 0) := HL10.out.cell (j := 8) rfl
  have f8 : w10.frozen? ⟨g, 8, none⟩ = false := HL10.out.fz (show 8 < 12 by omega)
  go_upto_region 6 with fail
  obtain ⟨sv, hsv⟩ : ∃ x, x = z7.tmod 4294967296 % 4294967296 := ⟨_, rfl⟩
  rw [← hsv]
  have HSv : Hid (sv = z7.tmod 4294967296 % 4294967296) := hsv
  clear hsv
  clear c8 f8
  obtain ⟨w11, hw⟩ : ∃ x, x = (w10.setCell ⟨g, 8, none⟩ (.int .u32 (sv))) := ⟨_, rfl⟩
  have HL11 : Hid (Lv w11 g (cmdA ⟨z0, z1, ⟨#[]⟩, z2, z3, z4, z5, z6, sv, 0, 0⟩ (.slice none 0 0)).toList) := by rw [hw]; exact (HL10.out.set1' 8 _ (by show _ < 12; omega))
  have ks : Kp (fun b => b = g) w10 w11 := by rw [hw]; show Kp _ _ _; exact (Kp.refl (fun b => b = g) w10).setCell (fun _ => rfl) _
  have HK11 : Hid (Kp (fun b => b = r) w w11) := HTg.out _ _ HK10.out ks
  have HLh11 : Hid (Lv w11 h2 zeroC.toList) := HLh10.out.keep ks (fun e => by have := HO.out; omega)
  have HR11 : Hid (Ru Z w11 r (st8 st)) := HR10.out.keep ks HO.out.2.2.2.2.1 (fun b hb e => HZ.out.1 (e ▸ hb))
  rw [← hw]
  clear ks hw HK10 HL10 HLh10 HR10
  have HC : Hid (Calls _ _ _ w11 _) := readNum2 r (itO (st8 st) 0) w11 HR11.out ((HB.out.it 7).nxt _)
  go_wp2_with fail
  refine HC.out.mono ?_
  rintro e9 w12 ⟨z8, rfl, hru, hz, kk⟩
  have HR12 : Hid (Ru Z w12 r (itO (st8 st) 1)) := hru
  have Hz8 : Hid ((itO (st8 st) 1).isSome = true → z8 = (vlO 1152921504606846976 (itO (st8 st) 0) : Int)) := hz
  have HK12 : Hid (Kp (fun b => b = r) w w12) := HK11.out.trans kk (fun _ _ e => e)
  have HL12 : Hid (Lv w12 g (cmdA ⟨z0, z1, ⟨#[]⟩, z2, z3, z4, z5, z6, sv, 0, 0⟩ (.slice none 0 0)).toList) := HL11.out.keep kk (fun e => by have := HO.out; omega)
  have HLh12 : Hid (Lv w12 h2 zeroC.toList) := HLh11.out.keep kk (fun e => by have := HO.out; omega)
  clear hru hz kk HC HR11 HL11 HLh11 HK11
  have HC : Hid (Calls _ _ _ w12 _) := readNum2 r (itO (st8 st) 1) w12 HR12.out (((HB.out.it 7).nxt _).it 1)
  go_wp2_with fail
  refine HC.out.mono ?_
  rintro e9 w13 ⟨z9, rfl, hru, hz, kk⟩
  have HR13 : Hid (Ru Z w13 r (itO (st8 st) 2)) := hru
  have Hz9 : Hid ((itO (st8 st) 2).isSome = true → z9 = (vlO 1152921504606846976 (itO (st8 st) 1) : Int)) := hz
  have HK13 : Hid (Kp (fun b => b = r) w w13) := HK12.out.trans kk (fun _ _ e => e)
  have HL13 : Hid (Lv w13 g (cmdA ⟨z0, z1, ⟨#[]⟩, z2, z3, z4, z5, z6, sv, 0, 0⟩ (.slice none 0 0)).toList) := HL12.out.keep kk (fun e => by have := HO.out; omega)
  have HLh13 : Hid (Lv w13 h2 zeroC.toList) := HLh12.out.keep kk (fun e => by have := HO.out; omega)
  clear hru hz kk HC HR12 HL12 HLh12 HK12
  have c9 : w13.cell? ⟨g, 9, none⟩ = some (.int .i64 0) := HL13.out.cell (j := 9) rfl
  have f9 : w13.frozen? ⟨g, 9, none⟩ = false := HL13.out.fz (show 9 < 12 by omega)
  have c10 : w13.cell? ⟨g, 10, none⟩ = some (.int .i64 0) := HL13.out.cell (j := 10) rfl
  have f10 : w13.frozen? ⟨g, 10, none⟩ = false := HL13.out.fz (show 10 < 12 by omega)
  go_upto_region 7 with fail
  clear c9 f9 c10 f10
  obtain ⟨w14, hw⟩ : ∃ x, x = ((w13.setCell ⟨g, 9, none⟩ (.int .i64 (z8))).setCell ⟨g, 10, none⟩ (.int .i64 (z9))) := ⟨_, rfl⟩
  have HL14 : Hid (Lv w14 g (cmdA ⟨z0, z1, ⟨#[]⟩, z2, z3, z4, z5, z6, sv, z8, z9⟩ (.slice none 0 0)).toList) := by rw [hw]; exact ((HL13.out.set1' 9 _ (by show _ < 12; omega)).set1' 10 _ (by show _ < 12; omega))
  have ks : Kp (fun b => b = g) w13 w14 := by rw [hw]; show Kp _ _ _; exact ((Kp.refl (fun b => b = g) w13).setCell (fun _ => rfl) _).setCell (fun _ => rfl) _
  have HK14 : Hid (Kp (fun b => b = r) w w14) := HTg.out _ _ HK13.out ks
  have HLh14 : Hid (Lv w14 h2 zeroC.toList) := HLh13.out.keep ks (fun e => by have := HO.out; omega)
  have HR14 : Hid (Ru Z w14 r (st10 st)) := HR13.out.keep ks HO.out.2.2.2.2.1 (fun b hb e => HZ.out.1 (e ▸ hb))
  rw [← hw]
  clear ks hw HK13 HL13 HLh13 HR13
  have HB10 : Hid (Byt (st10 st)) := ((HB.out.it 7).nxt _).it 2
  have HC : Hid (Calls _ _ _ w14 _) := rlist2 r 8 (st10 st) w14 HR14.out (by decide) HB10.out
  have hn0 : (n0O st : Int) ≤ 8 := by have := vlO_le 8 (st10 st); show ((vlO 8 (st10 st) : Nat) : Int) ≤ 8; omega
  go_wp2_with fail
  refine HC.out.mono ?_
  rintro e9 wa ⟨rfl, hru, kk⟩
  have HRa : Hid (Ru Z wa r (st11 st)) := hru
  have HK15 : Hid (Kp (fun b => b = r) w wa) := HK14.out.trans kk (fun _ _ e => e)
  have HL15 : Hid (Lv wa g (cmdA ⟨z0, z1, ⟨#[]⟩, z2, z3, z4, z5, z6, sv, z8, z9⟩ (.slice none 0 0)).toList) := HL14.out.keep kk (fun e => by have := HO.out; omega)
  have HLh15 : Hid (Lv wa h2 zeroC.toList) := HLh14.out.keep kk (fun e => by have := HO.out; omega)
  clear hru kk HC HR14 HL14 HLh14 HK14
  rw [show vlO 8 (st10 st) = n0O st from rfl]
  have HC : Hid (Calls _ _ _ wa _) := rtake2 r (n0O st) (st11 st) wa HRa.out
  go_wp2_with fail
  refine HC.out.mono ?_
  rintro e9 wb ⟨⟨qt, mt, ct, rfl, hmc, hrb, hru, _⟩, kk⟩
  have HR16 : Hid (Ru Z wb r (st12 st)) := hru
  have HK16 : Hid (Kp (fun b => b = r) w wb) := HK15.out.trans kk (fun _ _ e => e)
  have HL16 : Hid (Lv wb g (cmdA ⟨z0, z1, ⟨#[]⟩, z2, z3, z4, z5, z6, sv, z8, z9⟩ (.slice none 0 0)).toList) := HL15.out.keep kk (fun e => by have := HO.out; omega)
  have HLh16 : Hid (Lv wb h2 zeroC.toList) := HLh15.out.keep kk (fun e => by have := HO.out; omega)
  have hcv := convert_bytes qt mt ct (tkB (n0O st) (st11 st)) wb hrb
  have HKy : Hid ((tkB (n0O st) (st11 st)).length ≤ 8) := by have := @tkB_len (n0O st) (st11 st); have := vlO_le 8 (st10 st); show _ ≤ _; unfold n0O at *; omega
  clear hru kk HC HRa HL15 HLh15 HK15 hmc hrb
  have c2 : wb.cell? ⟨g, 2, none⟩ = some (.string ⟨#[]⟩) := HL16.out.cell (j := 2) rfl
  have f2 : wb.frozen? ⟨g, 2, none⟩ = false := HL16.out.fz (show 2 < 12 by omega)
  go_upto_region 8 with fail
  clear hcv
  clear c2 f2
  obtain ⟨w17, hw⟩ : ∃ x, x = (wb.setCell ⟨g, 2, none⟩ (.string (str (tkB (n0O st) (st11 st))))) := ⟨_, rfl⟩
  have HL17 : Hid (Lv w17 g (cmdA ⟨z0, z1, str (tkB (n0O st) (st11 st)), z2, z3, z4, z5, z6, sv, z8, z9⟩ (.slice none 0 0)).toList) := by rw [hw]; exact (HL16.out.set1' 2 _ (by show _ < 12; omega))
  have ks : Kp (fun b => b = g) wb w17 := by rw [hw]; show Kp _ _ _; exact (Kp.refl (fun b => b = g) wb).setCell (fun _ => rfl) _
  have HK17 : Hid (Kp (fun b => b = r) w w17) := HTg.out _ _ HK16.out ks
  have HLh17 : Hid (Lv w17 h2 zeroC.toList) := HLh16.out.keep ks (fun e => by have := HO.out; omega)
  have HR17 : Hid (Ru Z w17 r (st12 st)) := HR16.out.keep ks HO.out.2.2.2.2.1 (fun b hb e => HZ.out.1 (e ▸ hb))
  rw [← hw]
  clear ks hw HK16 HL16 HLh16 HR16
  have HB12 : Hid (Byt (st12 st)) := (HB10.out.nxt _).take _
  have HC : Hid (Calls _ _ _ w17 _) := rlist2 r 255 (st12 st) w17 HR17.out (by decide) HB12.out
  obtain ⟨n, hn⟩ : ∃ x, x = n1O st := ⟨_, rfl⟩
  have hn9 : (n : Int) ≤ 255 := by have := vlO_le 255 (st12 st); rw [hn]; show ((vlO 255 (st12 st) : Nat) : Int) ≤ 255; omega
  have HN : Hid (n = n1O st) := hn
  go_wp2_with fail
  refine HC.out.mono ?_
  rintro e9 wc ⟨rfl, hru, kk⟩
  have HR18 : Hid (Ru Z wc r (st13 st)) := hru
  have HK18 : Hid (Kp (fun b => b = r) w wc) := HK17.out.trans kk (fun _ _ e => e)
  have HL18 : Hid (Lv wc g (cmdA ⟨z0, z1, str (tkB (n0O st) (st11 st)), z2, z3, z4, z5, z6, sv, z8, z9⟩ (.slice none 0 0)).toList) := HL17.out.keep kk (fun e => by have := HO.out; omega)
  have HLh18 : Hid (Lv wc h2 zeroC.toList) := HLh17.out.keep kk (fun e => by have := HO.out; omega)
  clear hru kk HC HR17 HL17 HLh17 HK17
  rw [show vlO 255 (st12 st) = n from hn.symm]
  clear hn
  have HB13 : Hid (Byt (st13 st)) := HB12.out.nxt _
  have HU : Hid (g + 1 ≤ wc.heap.size) := by
    have h1 := HL18.out.lt (by show 0 < 12; decide)
    show _ ≤ _
    omega
  go_wp2_with fail
  go_loopg [48] n (fun gk iv wz => ∃ (k : Nat) (zs : List Int) (v : Value), k ≤ n ∧ gk = n - k ∧ iv = .int .i64 k ∧ Hid (Ru Z wz r (itO (st13 st) k) ∧ OwI wz (g + 1) v zs ∧ zs.length = k ∧ ((itO (st13 st) k).isSome = true → zs = intsOf ((List.range k).map (fun j => vlO 1152921504606846976 (itO (st13 st) j)))) ∧ Lv wz g (cmdA ⟨z0, z1, str (tkB (n0O st) (st11 st)), z2, z3, z4, z5, z6, sv, z8, z9⟩ v).toList ∧ Lv wz h2 zeroC.toList ∧ Kp (fun b => b = r) w wz ∧ g + 1 ≤ wz.heap.size))
  case atStart => exact ⟨0, [], .slice none 0 0, Nat.zero_le _, rfl, rfl, HR18.out, World.ownsRow_nil _ _ _ _, rfl, fun _ => rfl, HL18.out, HLh18.out, HK18.out, HU.out⟩
  case round =>
    obtain ⟨k, zs, v, hk, rfl, rfl, HRe⟩ := hrel
    by_cases hlt : (k : Int) < (n : Int)
    · have HKi : Hid (wrap64 ((k : Int) + 1) = ((k + 1 : Nat) : Int)) := (by show _ = _; unfold wrap64; omega)
      go_upto_region 10 with fail
      refine xca_region (fun z => Ru Z z r (itO (st13 st) k)) (fun z => Ru Z z r (itO (st13 st) (k + 1))) r g (g + 1) v zs (fun z => (itO (st13 st) (k + 1)).isSome = true → z = (vlO 1152921504606846976 (itO (st13 st) k) : Int)) (cmdA ⟨z0, z1, str (tkB (n0O st) (st11 st)), z2, z3, z4, z5, z6, sv, z8, z9⟩ v).toList (.pointer (some ⟨h2, 0, none⟩)) _ _ _ (by kernel_rfl) rfl ⟨rfl, rfl, rfl, rfl, rfl, rfl, rfl⟩ ⟨fun u1 u2 ku hu => hu.keep ku id (fun _ _ => id), fun u1 u2 ku hu => ?_, fun u1 hu => ?_, ?_, Nat.lt_succ_self _, HO.out.2.2.2.2.1, ?_, ?_, (by show _ < 12; decide), rfl⟩ HRe.out.1 HRe.out.2.2.2.2.1 HRe.out.2.1 ?_
      · exact hu.keep ku (fun e => by have := HO.out; omega) (fun b hb e => by have := HO.out; have := HZ.out.2.2 b hb; omega)
      · refine (readNum2 r _ u1 hu (HB13.out.it k)).mono ?_
        rintro e9 u2 ⟨z, rfl, hq, hz, k2⟩
        exact ⟨k2, Or.inl ⟨z, hz, rfl, hq⟩⟩
      · have := HO.out; omega
      · have := HRe.out.2.2.1; omega
      · exact HRe.out.2.2.2.2.2.2.2
      · intro q50 q51 q52 q53 q54 q55 q56 wz vz z kz hp hz ho hl
        simp only [Act.put, List.setIfInBounds_toArray, List.set_cons_succ, List.set_cons_zero]
        have HZr : Hid (Ru Z wz r (itO (st13 st) (k + 1)) ∧ OwI wz (g + 1) vz (zs ++ [z]) ∧ (zs ++ [z]).length = k + 1 ∧ ((itO (st13 st) (k + 1)).isSome = true → zs ++ [z] = intsOf ((List.range (k + 1)).map (fun j => vlO 1152921504606846976 (itO (st13 st) j)))) ∧ Lv wz g (cmdA ⟨z0, z1, str (tkB (n0O st) (st11 st)), z2, z3, z4, z5, z6, sv, z8, z9⟩ vz).toList ∧ Lv wz h2 zeroC.toList ∧ Kp (fun b => b = r) w wz ∧ g + 1 ≤ wz.heap.size) := by
          refine ⟨hp, ho, by rw [List.length_append, HRe.out.2.2.1]; rfl, fun hs => ?_, hl, HRe.out.2.2.2.2.2.1.keep kz (fun e => by have := HO.out; omega), HRe.out.2.2.2.2.2.2.1.trans kz (fun b hb e => ?_), Nat.le_trans HRe.out.2.2.2.2.2.2.2 kz.size⟩
          · rw [HRe.out.2.2.2.1 (nxtO_isSome (most := 1152921504606846976) hs), hz hs]
            unfold intsOf
            rw [List.range_succ, List.map_append, List.map_append]
            rfl
          · have := HO.out
            rcases e with e | e | e
            · exact e
            · omega
            · omega
        clear ho hl hz hp kz
        go_wp2_with fail
        go_roundg (n - (k + 1))
        case rel => exact ⟨k + 1, zs ++ [z], vz, by omega, rfl, by first | rw [HKi.out] | rfl | go_num, HZr.out⟩
        case measure => omega
    · have hkn : k = n := by omega
      subst hkn
      obtain ⟨q, cap, rfl, hfl⟩ := own_fl HRe.out.2.1
      have HFl : Hid (Fl wr (fun b => g + 1 ≤ b ∧ b < wr.heap.size) q (zs.map encI)) := hfl
      have HRF : Hid (Ru Z wr r (stF st)) := by
        have := HRe.out.1
        rw [HN.out] at this
        exact this
      obtain ⟨cs0, hcs0⟩ : ∃ x, x = (⟨z0, z1, str (tkB (n0O st) (st11 st)), z2, z3, z4, z5, z6, sv, z8, z9⟩ : Cs0) := ⟨_, rfl⟩
      have HG : Hid (∀ t, stF st = some t → z7 = (sumO st : Int) ∧ (sumO st ≤ 4294967295 → cs0 = csOf (cpO st) ∧ zs = intsOf (cpO st).nodes)) := fun t ht => by
        obtain ⟨a13, a12, a10, a8, a7⟩ := stF_13 ht
        have e7 := Hz7.out a8
        refine ⟨e7, fun hs => ⟨?_, ?_⟩⟩
        · have es : sv = (sumO st : Int) := by
            have h1 := HSv.out
            rw [e7] at h1
            rw [h1]
            show (((sumO st : Nat) : Int).tmod 4294967296) % 4294967296 = _
            rw [Int.tmod_eq_emod_of_nonneg (by omega)]
            omega
          rw [hcs0, Hz0.out (itO_isSome (i := 1) (by decide) a7), Hz1.out (itO_isSome (i := 2) (by decide) a7), Hz2.out (itO_isSome (i := 3) (by decide) a7), Hz3.out (itO_isSome (i := 4) (by decide) a7), Hz4.out (itO_isSome (i := 5) (by decide) a7), Hz5.out (itO_isSome (i := 6) (by decide) a7), Hz6.out a7, es, Hz8.out (itO_isSome (st := st8 st) (i := 1) (j := 2) (by decide) a10), Hz9.out a10]
          rfl
        · have h1 := HRe.out.2.2.2.1 (by
            have : stF st = itO (st13 st) k := by rw [HN.out]; rfl
            rw [← this, ht]
            rfl)
          rw [h1, HN.out]
          rfl
      have HLz : Hid (Lv wr g (cmdA cs0 (.slice q zs.length cap)).toList) := by rw [hcs0]; exact HRe.out.2.2.2.2.1
      have HLh : Hid (Lv wr h2 zeroC.toList) := HRe.out.2.2.2.2.2.1
      have HKz : Hid (Kp (fun b => b = r) w wr) := HRe.out.2.2.2.2.2.2.1
      have HLen : Hid (zs.length = k ∧ k ≤ 255) := ⟨HRe.out.2.2.1, by omega⟩
      have HKs : Hid (cs0.key.size ≤ 8) := by rw [hcs0]; show (str _).size ≤ 8; rw [str_size]; exact HKy.out
      obtain ⟨xa, hxa⟩ : ∃ x, x = cmdA cs0 (.slice q zs.length cap) := ⟨_, rfl⟩
      have HXl : Hid (xa.toList.length = 12) := by rw [hxa]; rfl
      have HX1 : Hid (xa.toList.toArray.all (·.oneCell') = true) := by rw [hxa]; exact cmd_one _ rfl
      have HMay : Hid (∀ z, Fl z (fun b => g + 1 ≤ b ∧ b < wr.heap.size) q (zs.map encI) → Calls Tryd.prog 25 #[.agg xa] z fun e w' => e = .returned (.bool (mayC cs0 zs)) ∧ Kp (fun _ => False) z w') := fun z hz => by
        rw [hxa]
        exact rmayCmd_ok cs0 _ q zs.length cap zs z hz rfl (by have := HLen.out; omega) (by have := HKs.out; omega)
      have HXa : Hid (xa = cmdA cs0 (.slice q zs.length cap)) := hxa
      rw [← hxa] at HLz
      have HEnd : Hid (∀ (b : Bool) (w3 : World) (wF : World), Ru Z w3 r (stF st) → (b = false → rdX st = none) → (b = true → ∀ t, stF st = some t → rdX st = some (cpO st, t) ∧ cs0 = csOf (cpO st) ∧ zs = intsOf (cpO st).nodes) → Fl w3 (fun b => g + 1 ≤ b ∧ b < w3.heap.size) q (zs.map encI) → Kp (fun b => b = r) w w3 → (wF = if b then w3 else w3.setCell ⟨r, 1, none⟩ (.bool true)) → ∀ w4, Kp (fun b => b = h2) wF w4 → XcRes Z r st w (.returned (.agg xa)) w4 ∧ Kp (fun b => b = r) w w4) := fun b w3 wF hru hF hT hfl kw hwF w4 k4 => by
        have hgo : h2 = w.heap.size ∧ g = h2 + 1 := ⟨HO.out.2.1, HO.out.2.2.1⟩
        cases b with
        | false =>
          have e : wF = w3.setCell ⟨r, 1, none⟩ (.bool true) := hwF
          obtain ⟨hb1, hb2⟩ := hru.bad
          rw [← e] at hb1 hb2
          refine ⟨?_, (kw.trans hb2 (fun _ _ e => e)).trans k4 (fun b hb e => by omega)⟩
          unfold XcRes
          rw [hF rfl]
          exact ⟨⟨cs0, q, zs.length, cap, by rw [HXa.out]⟩, hb1.keep k4 (fun e => HO.out.2.2.2.2.2.1 e.symm) (fun b hb e => HZ.out.2.1 (e ▸ hb))⟩
        | true =>
          have e : wF = w3 := hwF
          rw [e] at k4
          have hr4 := hru.keep k4 (fun e => HO.out.2.2.2.2.2.1 e.symm) (fun b hb e => HZ.out.2.1 (e ▸ hb))
          refine ⟨?_, kw.trans k4 (fun b hb e => by omega)⟩
          unfold XcRes
          cases hS : stF st with
          | none =>
            rw [rdX_none hS]
            rw [hS] at hr4
            exact ⟨⟨cs0, q, zs.length, cap, by rw [HXa.out]⟩, hr4⟩
          | some t =>
            obtain ⟨h1, h5, h6⟩ := hT rfl t hS
            rw [h1]
            rw [hS] at hr4
            refine ⟨q, cap, by rw [HXa.out, h5, h6]; unfold intsOf; rw [List.length_map], ?_, hr4⟩
            rw [← h6]
            exact (hfl.keep k4 (fun b hb e => by omega)).mono (fun b hb => ⟨by omega, Nat.lt_of_lt_of_le hb.2 k4.size⟩)
      have cr1 : wr.cell? ⟨r, 1, none⟩ = some (.bool (stF st).isNone) := HRF.out.b
      have fr1 : wr.frozen? ⟨r, 1, none⟩ = false := HRF.out.f
      clear hfl hxa hcs0
      obtain ⟨dC, hdC, hdR⟩ := dsCmd
      by_cases hs : (4294967296 : Int) ≤ z7
      · have HN1 : Hid (rdX st = none) := by
          show _ = _
          cases hS : stF st with
          | none => exact rdX_none hS
          | some t =>
            have := (HG.out t hS).1
            exact rdX_great hS (by omega)
        have HW : Hid (∀ w4, Kp (fun b => b = h2) (wr.setCell ⟨r, 1, none⟩ (.bool true)) w4 → XcRes Z r st w (.returned (.agg xa)) w4 ∧ Kp (fun b => b = r) w w4) := HEnd.out false wr _ HRF.out (fun _ => HN1.out) (fun h => by cases h) HFl.out HKz.out rfl
        have ksr : Kp (fun b => b = r) wr (wr.setCell ⟨r, 1, none⟩ (.bool true)) := HRF.out.bad.2
        have HL5 : Hid (Lv (wr.setCell ⟨r, 1, none⟩ (.bool true)) g xa.toList) := HLz.out.keep ksr (fun e => HO.out.2.2.2.2.1 e.symm)
        have HLh5 : Hid (Lv (wr.setCell ⟨r, 1, none⟩ (.bool true)) h2 zeroC.toList) := HLh.out.keep ksr (fun e => HO.out.2.2.2.2.2.1 e)
        clear ksr
        go_wp2_with (first
          | (refine wpList_load_all rfl 27 _ rfl 12 g xa.toList rfl HL5.out ⟨dC, hdC, hdR⟩ szCmd HXl.out ?_)
          | (refine wpList_store_all rfl 27 _ _ rfl 12 h2 zeroC.toList xa.toList rfl rfl HLh5.out szCmd rfl HXl.out HX1.out ?_; intro w4 hl4 k4))
        refine bodyPost_ret (res_cell Tryd.results33 _ _ h2 _ rfl (hl4.load ⟨dC, hdC, hdR⟩ szCmd HXl.out)) rfl ?_
        rw [Array.toArray_toList]
        exact HW.out w4 k4
      · go_wp2_with (refine wpList_ldw (by first | rfl | go_simp) 27 _ rfl g rfl xa.toList dC HLz.out hdC hdR (by rw [szCmd, HXl.out]) ?_; rw [Array.toArray_toList])
        refine (HMay.out wr HFl.out).mono ?_
        rintro e9 w3 ⟨rfl, k3⟩
        have HRF3 : Hid (Ru Z w3 r (stF st)) := HRF.out.keep k3 id (fun _ _ => id)
        have HL3 : Hid (Lv w3 g xa.toList) := HLz.out.keep k3 id
        have HLh3 : Hid (Lv w3 h2 zeroC.toList) := HLh.out.keep k3 id
        have HF3 : Hid (Fl w3 (fun b => g + 1 ≤ b ∧ b < w3.heap.size) q (zs.map encI)) := (HFl.out.keep k3 (fun _ _ => id)).mono (fun b hb => ⟨hb.1, Nat.lt_of_lt_of_le hb.2 k3.size⟩)
        have HK3 : Hid (Kp (fun b => b = r) w w3) := HKz.out.trans k3 (fun _ _ e => e.elim)
        have cr3 : w3.cell? ⟨r, 1, none⟩ = some (.bool (stF st).isNone) := HRF3.out.b
        have fr3 : w3.frozen? ⟨r, 1, none⟩ = false := HRF3.out.f
        clear k3 cr1 fr1
        cases hM : mayC cs0 zs with
        | false =>
          have HN1 : Hid (rdX st = none) := by
            show _ = _
            cases hS : stF st with
            | none => exact rdX_none hS
            | some t =>
              obtain ⟨h1, h3⟩ := HG.out t hS
              have hs' : sumO st ≤ 4294967295 := by omega
              obtain ⟨h4, h5⟩ := h3 hs'
              rw [rdX_may hS hs', ← h4, ← h5, hM]
              rfl
          have HW : Hid (∀ w4, Kp (fun b => b = h2) (w3.setCell ⟨r, 1, none⟩ (.bool true)) w4 → XcRes Z r st w (.returned (.agg xa)) w4 ∧ Kp (fun b => b = r) w w4) := HEnd.out false w3 _ HRF3.out (fun _ => HN1.out) (fun h => by cases h) HF3.out HK3.out rfl
          have ksr : Kp (fun b => b = r) w3 (w3.setCell ⟨r, 1, none⟩ (.bool true)) := HRF3.out.bad.2
          have HL5 : Hid (Lv (w3.setCell ⟨r, 1, none⟩ (.bool true)) g xa.toList) := HL3.out.keep ksr (fun e => HO.out.2.2.2.2.1 e.symm)
          have HLh5 : Hid (Lv (w3.setCell ⟨r, 1, none⟩ (.bool true)) h2 zeroC.toList) := HLh3.out.keep ksr (fun e => HO.out.2.2.2.2.2.1 e)
          clear ksr hM
          go_wp2_with (first
            | (refine wpList_load_all rfl 27 _ rfl 12 g xa.toList rfl HL5.out ⟨dC, hdC, hdR⟩ szCmd HXl.out ?_)
            | (refine wpList_store_all rfl 27 _ _ rfl 12 h2 zeroC.toList xa.toList rfl rfl HLh5.out szCmd rfl HXl.out HX1.out ?_; intro w4 hl4 k4))
          refine bodyPost_ret (res_cell Tryd.results33 _ _ h2 _ rfl (hl4.load ⟨dC, hdC, hdR⟩ szCmd HXl.out)) rfl ?_
          rw [Array.toArray_toList]
          exact HW.out w4 k4
        | true =>
          have HW : Hid (∀ w4, Kp (fun b => b = h2) w3 w4 → XcRes Z r st w (.returned (.agg xa)) w4 ∧ Kp (fun b => b = r) w w4) := HEnd.out true w3 _ HRF3.out (fun h => by cases h) (fun _ t hS => by
            obtain ⟨h1, h3⟩ := HG.out t hS
            have hs' : sumO st ≤ 4294967295 := by omega
            obtain ⟨h4, h5⟩ := h3 hs'
            refine ⟨?_, h4, h5⟩
            rw [rdX_may hS hs', ← h4, ← h5, hM]
            rfl) HF3.out HK3.out rfl
          clear hM
          go_wp2_with (first
            | (refine wpList_load_all rfl 27 _ rfl 12 g xa.toList rfl HL3.out ⟨dC, hdC, hdR⟩ szCmd HXl.out ?_)
            | (refine wpList_store_all rfl 27 _ _ rfl 12 h2 zeroC.toList xa.toList rfl rfl HLh3.out szCmd rfl HXl.out HX1.out ?_; intro w4 hl4 k4))
          refine bodyPost_ret (res_cell Tryd.results33 _ _ h2 _ rfl (hl4.load ⟨dC, hdC, hdR⟩ szCmd HXl.out)) rfl ?_
          rw [Array.toArray_toList]
          exact HW.out w4 k4
end Go.Proofs.YtoepemgflbmlcaaDoor

/- frame.attempt, of commands. -/
namespace Go.Proofs.YtoepemgflbmlcaaDoor
set_option linter.unusedVariables false
set_option linter.unusedSimpArgs false
open Go.RowKit Go.Deep

theorem catch_p (p : Addr) (x : Int) (ty : TypeId) (pv : Value) (older : List PanicEntry) (w : World) (hc : w.cell? p = some (.int .i64 x)) (hz : w.frozen? p = false) :
    CallsD Tryd.prog 55 #[.pointer (some p)] (.panicking ({ v := .iface ty pv, recovered := false } :: older)) w fun e u' w' =>
      e = .returned (.tuple #[]) ∧ u' = .panicking ({ v := .iface ty pv, recovered := true } :: older) ∧ w' = w.setCell p (.int .i64 51) := by
  refine callsD_of_wpS Tryd.func55 rfl fun c₀ cs hu => ?_
  apply wpS_seq
  apply wpS_region
  simp [wpOpsS, go_sem, recoverD, hu, Tryd.ntmps55, Exit.thenS]
  refine wpS_cond (t := true) (by simp [Act.eval, Array.replicate]) ?_
  simp only [if_true]
  apply wpS_region
  simp [wpOpsS, go_sem, hc, hz, bodyPostS, results, Tryd.results55]

theorem catch_i (p : Addr) (w : World) :
    CallsD Tryd.prog 55 #[.pointer (some p)] .returning w fun e u' w' => e = .returned (.tuple #[]) ∧ u' = .returning ∧ w' = w := by
  refine callsD_of_wpS Tryd.func55 rfl fun c₀ cs hu => ?_
  apply wpS_seq
  apply wpS_region
  simp [wpOpsS, go_sem, recoverD, hu, Tryd.ntmps55, Exit.thenS]
  refine wpS_cond (t := false) (by simp [Act.eval, Array.replicate]) ?_
  simp only [Bool.false_eq_true, if_false]
  refine wpS_of_wp (wp_skip ?_)
  cases c₀
  simp_all [bodyPostS, results, Tryd.results55]

theorem res_cell_cell {fn : Func} {t t2 : Tmp} {ty ty2 : TypeId} (h : fn.results = #[.cell t ty, .cell t2 ty2]) (tmps : Array Value) (w : World) (g g2 : Nat) (v v2 : Value) (ht : tmps.getD t undef = .pointer (some ⟨g, 0, none⟩)) (hl : (loadVar ty ⟨g, 0, none⟩).run Tryd.prog w = .ok v w) (ht2 : tmps.getD t2 undef = .pointer (some ⟨g2, 0, none⟩)) (hl2 : (loadVar ty2 ⟨g2, 0, none⟩).run Tryd.prog w = .ok v2 w) :
    (results fn tmps).run Tryd.prog w = .ok (.tuple #[v, v2]) w := by
  have ht' : tmps[t]?.getD undef = .pointer (some ⟨g, 0, none⟩) := by simpa using ht
  have ht2' : tmps[t2]?.getD undef = .pointer (some ⟨g2, 0, none⟩) := by simpa using ht2
  simp [results, h, ht', ht2', asAddr, hl, hl2]
set_option maxRecDepth 100000 in
theorem load_errno (g : Nat) (x : Int) (w : World) (h : w.cell? ⟨g, 0, none⟩ = some (.int .i64 x)) : (loadVar 29 ⟨g, 0, none⟩).run Tryd.prog w = .ok (.int .i64 x) w := by
  go_simp
/-- what attempt answers -/
def AtRes (xs : List Nat) (w : World) (e : Ending) (w' : World) : Prop := match okC xs with
  | some c => ∃ q cap, e = .returned (.tuple #[.agg (cmdA (csOf c) (.slice q c.nodes.length cap)), .int .i64 0]) ∧ Fl w' (fun b => w.heap.size ≤ b ∧ b < w'.heap.size) q ((intsOf c.nodes).map encI)
  | none => e = .returned (.tuple #[.agg zeroC, .int .i64 51])

set_option maxRecDepth 100000 in
set_option maxHeartbeats 3200000 in
theorem attempt_ok {Z : Nat → Prop} (r : Nat) (xs : List Nat) (w : World) (h : Cu Z w r xs) (hb : ∀ x ∈ xs, x < 256) (hZ : ∀ b, Z b → b < w.heap.size) : Calls Tryd.prog 28 #[.func (.func 29) #[] #[.pointer (some ⟨r, 0, none⟩)]] w fun e w' => AtRes xs w e w' ∧ Kp (fun b => b = r) w w' := by
  have hr : r < w.heap.size := by
    obtain ⟨q, m, c, h1, _⟩ := h
    exact World.block_lt_of_cell? _ _ h1
  obtain ⟨h2, hh2⟩ : ∃ x, x = w.heap.size := ⟨_, rfl⟩
  obtain ⟨g, hg⟩ : ∃ x, x = w.heap.size + 1 := ⟨_, rfl⟩
  obtain ⟨u, hu⟩ : ∃ x, x = (w.alloc (.cells zeroC 27)).alloc (.cells #[.int .i64 0] 29) := ⟨_, rfl⟩
  have z1 : (w.alloc (.cells zeroC 27)).heap.size = w.heap.size + 1 := by simp
  have k0 : Kp (fun _ => False) w u := by rw [hu]; exact ((Kp.refl _ _).alloc _).alloc _
  have HLh : Hid (Lv u h2 zeroC.toList) := by rw [hu, hh2]; exact (Lv.new w _ _).keep ((Kp.refl (fun _ => False) _).alloc _) id
  have HLg : Hid (Lv u g [.int .i64 0]) := by rw [hu, hg, ← z1]; exact Lv.new _ _ _
  have HK0 : Hid (Kp (fun b => b = r) w u) := k0.mono (fun _ _ e => e.elim)
  have HO : Hid (r < h2 ∧ h2 = w.heap.size ∧ g = h2 + 1 ∧ u.heap.size = g + 1) := by
    have : u.heap.size = w.heap.size + 2 := by rw [hu]; simp
    show _ ∧ _
    omega
  have HC : Hid (Calls _ _ _ u _) := rc1_ok r xs u (h.keep k0 id (fun _ _ => id)) hb (fun b hb => by have := hZ b hb; have := HO.out; omega)
  have hu' : (w.alloc (.cells #[.int .i64 0, .int .i64 0, .string ⟨#[]⟩, .int .i64 0, .int .i64 0, .int .i64 0, .int .i64 0, .int .i64 0, .int .u32 0, .int .i64 0, .int .i64 0, .slice none 0 0] 27)).alloc (.cells #[.int .i64 0] 29) = u := hu.symm
  have hmf : ∀ (fn : Fn) (first cap : Array Value) (w : World), (Instr.makeFunc fn first cap).run Tryd.prog w = .ok (.func fn first cap) w := fun _ _ _ _ => rfl
  clear h hb hZ hr hu z1 k0
  go_enter_defers Tryd.func28, Tryd.ntmps28
  go_wp2_with fail
  refine HC.out.mono ?_
  rintro e9 w1 ⟨hq, k1⟩
  have HK1 : Hid (Kp (fun b => b = r) w w1) := HK0.out.trans k1 (fun _ _ e => e)
  have HLh1 : Hid (Lv w1 h2 zeroC.toList) := HLh.out.keep k1 (fun e => by have := HO.out; omega)
  have HLg1 : Hid (Lv w1 g [.int .i64 0]) := HLg.out.keep k1 (fun e => by have := HO.out; omega)
  rw [← hg, ← hh2]
  clear hu' hh2 hg k1 HC
  unfold R1Res at hq
  cases hm : okC xs with
  | none =>
    rw [hm] at hq
    have he : e9 = .panicked gaveUp := hq
    subst he
    have HM : Hid (okC xs = none) := hm
    clear hm
    refine leaves_cons (f := 55) (args := #[.pointer (some ⟨g, 0, none⟩)]) (by simp) (by simp [go_sem]) ?_
    refine (catch_p ⟨g, 0, none⟩ 0 29 _ [] w1 (HLg1.out.cell (j := 0) rfl) (HLg1.out.fz (show 0 < 1 by omega))).mono ?_
    rintro e u' w2 ⟨rfl, rfl, hw2⟩
    have ks : Kp (fun b => b = g) w1 w2 := by rw [hw2]; show Kp _ _ _; exact (Kp.refl (fun b => b = g) w1).setCell (fun _ => rfl) _
    have hl2 : Lv w2 g [.int .i64 51] := by rw [hw2]; exact HLg1.out.set1' 0 _ (show 0 < 1 by omega)
    have hlh2 : Lv w2 h2 zeroC.toList := HLh1.out.keep ks (fun e => by have := HO.out; omega)
    refine ⟨_, res_cell_cell Tryd.results28 _ _ h2 g _ _ rfl (hlh2.load dsCmd szCmd rfl) rfl (load_errno g 51 w2 (hl2.cell (j := 0) rfl)), ?_, HK1.out.trans ks (fun b hb e => by have := HO.out; omega)⟩
    unfold AtRes
    rw [HM.out]
  | some c =>
    rw [hm] at hq
    obtain ⟨q, cap, he, hfl⟩ := hq
    subst he
    have HM : Hid (okC xs = some c) := hm
    have HF1 : Hid (Fl w1 (fun b => u.heap.size ≤ b ∧ b < w1.heap.size) q ((intsOf c.nodes).map encI)) := hfl
    obtain ⟨xa, hxa⟩ : ∃ x, x = cmdA (csOf c) (.slice q c.nodes.length cap) := ⟨_, rfl⟩
    have HXl : Hid (xa.toList.length = 12) := by rw [hxa]; rfl
    have HX1 : Hid (xa.toList.toArray.all (·.oneCell') = true) := by rw [hxa]; exact cmd_one _ rfl
    have HXa : Hid (xa = cmdA (csOf c) (.slice q c.nodes.length cap)) := hxa
    rw [← hxa]
    clear hm hfl hxa
    have cg : w1.cell? ⟨g, 0, none⟩ = some (.int .i64 0) := HLg1.out.cell (j := 0) rfl
    have fg : w1.frozen? ⟨g, 0, none⟩ = false := HLg1.out.fz (show 0 < 1 by omega)
    go_wp2_with (refine wpList_store_all rfl 27 _ _ rfl 12 h2 zeroC.toList xa.toList rfl (by rw [Array.toArray_toList]; rfl) HLh1.out szCmd rfl HXl.out HX1.out ?_; intro w2 hl2 k2; have cg2 : w2.cell? ⟨g, 0, none⟩ = some (.int .i64 0) := (HLg1.out.keep k2 (fun e => by have := HO.out; omega)).cell (j := 0) rfl; have fg2 : w2.frozen? ⟨g, 0, none⟩ = false := (HLg1.out.keep k2 (fun e => by have := HO.out; omega)).fz (show 0 < 1 by omega))
    have ks : Kp (fun b => b = g) w2 (w2.setCell ⟨g, 0, none⟩ (.int .i64 0)) := (by show Kp _ _ _; exact (Kp.refl (fun b => b = g) w2).setCell (fun _ => rfl) _)
    have hl3 : Lv (w2.setCell ⟨g, 0, none⟩ (.int .i64 0)) g [.int .i64 0] := (HLg1.out.keep k2 (fun e => by have := HO.out; omega)).set1' 0 _ (show 0 < 1 by omega)
    have hlh3 := hl2.keep ks (fun e => by have := HO.out; omega)
    refine leaves_cons (f := 55) (args := #[.pointer (some ⟨g, 0, none⟩)]) (by simp) (by simp [go_sem]) ?_
    refine (catch_i ⟨g, 0, none⟩ _).mono ?_
    rintro e u' w4 ⟨rfl, rfl, hw4⟩
    rw [hw4]
    refine ⟨_, res_cell_cell Tryd.results28 _ _ h2 g _ _ rfl (hlh3.load dsCmd szCmd HXl.out) rfl (load_errno g 0 _ (hl3.cell (j := 0) rfl)), ?_, (HK1.out.trans k2 (fun b hb e => by have := HO.out; omega)).trans ks (fun b hb e => by have := HO.out; omega)⟩
    unfold AtRes
    rw [HM.out]
    refine ⟨q, cap, by rw [Array.toArray_toList, HXa.out], ((HF1.out.keep k2 (fun b hb e => by have := HO.out; omega)).keep ks (fun b hb e => by have := HO.out; omega)).mono (fun b hb => ⟨by have := HO.out; omega, ?_⟩)⟩
    have h8 := k2.size
    have h9 := ks.size
    omega
end Go.Proofs.YtoepemgflbmlcaaDoor
