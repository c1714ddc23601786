/- msgReader.vote. -/
import Derived.Test.YtoepemgflbmlcaaDoorOx
import Derived.Test.YtoepemgflbmlcaaDoorOy
namespace Go.Proofs.YtoepemgflbmlcaaDoor
set_option linter.unusedVariables false
set_option linter.unusedSimpArgs false
open Go.RowKit Go.Deep

set_option maxRecDepth 100000 in
set_option maxHeartbeats 3200000 in
theorem vote_ok {Z : Nat → Prop} (r : Nat) (xs : List Nat) (w : World) (h : Cu Z w r xs) (hb : ∀ x ∈ xs, x < 256) (hZ : ∀ b, Z b → b < w.heap.size) : Calls Tryd.prog 63 #[.pointer (some ⟨r, 0, none⟩)] w fun e w' => VtRes Z r xs w e w' ∧ Kp (fun b => b = r) w w' := by
  have hr : r < w.heap.size := by
    obtain ⟨q, m, c, h1, _⟩ := h
    exact World.block_lt_of_cell? _ _ h1
  obtain ⟨h2, hh2⟩ : ∃ x, x = w.heap.size := ⟨_, rfl⟩
  obtain ⟨g, hg⟩ : ∃ x, x = w.heap.size + 1 := ⟨_, rfl⟩
  obtain ⟨u, hu⟩ : ∃ x, x = (w.alloc (.cells zeroV.toArray 72)).alloc (.cells zeroV.toArray 72) := ⟨_, rfl⟩
  have z1 : (w.alloc (.cells zeroV.toArray 72)).heap.size = w.heap.size + 1 := by simp
  have z2 : u.heap.size = w.heap.size + 2 := by rw [hu]; simp
  have k0 : Kp (fun _ => False) w u := by rw [hu]; exact ((Kp.refl _ _).alloc _).alloc _
  have HLh : Hid (Lv u h2 zeroV) := by rw [hu, hh2]; exact (Lv.new w zeroV.toArray _).keep ((Kp.refl (fun _ => False) _).alloc _) id
  have HLg : Hid (Lv u g zeroV) := by rw [hu, hg, ← z1]; exact Lv.new _ zeroV.toArray _
  have HC0 : Hid (Cu Z u r xs) := h.keep k0 id (fun _ _ => id)
  have HK0 : Hid (Kp (fun b => b = r) w u) := k0.mono (fun _ _ e => e.elim)
  have HB : Hid (∀ x ∈ xs, x < 256) := hb
  have HZ : Hid (¬ Z g ∧ ¬ Z h2 ∧ ∀ b, Z b → b < h2) := ⟨fun e => by have := hZ _ e; omega, fun e => by have := hZ _ e; omega, fun b e => by have := hZ _ e; omega⟩
  have HO : Hid (r < h2 ∧ h2 = w.heap.size ∧ g = h2 + 1 ∧ u.heap.size = g + 1 ∧ r ≠ g ∧ h2 ≠ r ∧ h2 ≠ g) := by show _ ∧ _; omega
  have HT : Hid (∀ u1 u2, Kp (fun b => b = r) w u1 → Kp (fun b => b = r ∨ b = g) u1 u2 → Kp (fun b => b = r) w u2) := fun u1 u2 a b => a.trans b (fun c hc e => by
    have := HO.out
    rcases e with e | e
    · exact e
    · omega)
  have HPan : Hid (∀ (a : Act) (w' : World), a.defers = [] → rdVote xs = none → Kp (fun b => b = r) w w' → bodyPost Tryd.prog Tryd.f63 (fun e w' => VtRes Z r xs w e w' ∧ Kp (fun b => b = r) w w') (.panic gaveUp) a w') := fun a w' hd hn k => ⟨hd, by unfold VtRes; rw [hn], k⟩
  have hu' : (w.alloc (.cells #[.int .i64 0, .int .i64 0, .int .i64 0, .int .i64 0, .string ⟨#[]⟩, .int .i64 0, .int .i64 0, .int .i64 0, .int .i64 0, .int .i64 0, .int .u32 0, .int .i64 0, .int .i64 0, .slice none 0 0] 72)).alloc (.cells #[.int .i64 0, .int .i64 0, .int .i64 0, .int .i64 0, .string ⟨#[]⟩, .int .i64 0, .int .i64 0, .int .i64 0, .int .i64 0, .int .i64 0, .int .u32 0, .int .i64 0, .int .i64 0, .slice none 0 0] 72) = u := hu.symm
  clear h hb hZ hr hu z1 z2 k0
  go_enter Tryd.func63, Tryd.ntmps63
  go_upto_region 2 with fail
  rw [← hg, ← hh2]
  clear hu' hg hh2
  refine rv2_region Z r g xs zeroV (.pointer (some ⟨h2, 0, none⟩)) (by kernel_rfl) rfl ⟨rfl, rfl, rfl, rfl⟩ HB.out HO.out.2.2.2.2.1 HZ.out.1 (by show _ ≤ 14; decide) HC0.out HLg.out ?_ ?_
  · exact fun a w1 hB1 k1 hs1 => HPan.out a w1 hB1.2.2.2 (rdVote_no1 hs1) (HT.out _ _ HK0.out k1)
  intro q4 q5 q6 q7 q8 q9 q10 q11 q12 q13 q14 q15 w1 t1 k1 s1 c1 l1
  simp only [Act.put, List.setIfInBounds_toArray, List.set_cons_succ, List.set_cons_zero]
  have HL1 : Hid (Lv w1 g (.int .i64 (seqV xs 0 : Int) :: .int .i64 (seqV xs 1 : Int) :: zeroC.toList)) := l1
  have HLh1 : Hid (Lv w1 h2 zeroV) := HLh.out.keep k1 (fun e => by have := HO.out; omega)
  have HC1 : Hid (Cu Z w1 r t1) := c1
  have HS1 : Hid (seqN xs 2 = some t1) := s1
  have HB1 : Hid (∀ x ∈ t1, x < 256) := seqN_byte HB.out 2 t1 s1
  have HK1 : Hid (Kp (fun b => b = r) w w1) := HT.out _ _ HK0.out k1
  have HU1 : Hid (g + 1 ≤ w1.heap.size) := by have := k1.size; have := HO.out; show _ ≤ _; omega
  clear l1 k1 c1 s1
  have HCm : Hid (Calls _ _ _ w1 _) := rcmd_ok r t1 w1 HC1.out HB1.out (fun b hb => by have := HZ.out.2.2 b hb; have := HO.out; have := HU1.out; omega)
  go_wp2_with fail
  refine HCm.out.mono ?_
  rintro e9 w2 ⟨hq, k2⟩
  have HK2 : Hid (Kp (fun b => b = r) w w2) := HK1.out.trans k2 (fun _ _ e => e)
  have HL2 : Hid (Lv w2 g (.int .i64 (seqV xs 0 : Int) :: .int .i64 (seqV xs 1 : Int) :: zeroC.toList)) := HL1.out.keep k2 (fun e => by have := HO.out; omega)
  have HLh2 : Hid (Lv w2 h2 zeroV) := HLh1.out.keep k2 (fun e => by have := HO.out; omega)
  clear k2 HCm
  unfold RcRes at hq
  cases hm : rdCmd t1 with
  | none =>
    rw [hm] at hq
    have he : e9 = .panicked gaveUp := hq
    subst he
    exact HPan.out _ _ rfl (rdVote_no2 HS1.out hm) HK2.out
  | some p =>
  obtain ⟨c, t2⟩ := p
  rw [hm] at hq
  obtain ⟨q, cap, he, hfl, hc⟩ := hq
  subst he
  have HM : Hid (rdCmd t1 = some (c, t2)) := hm
  have HC2 : Hid (Cu Z w2 r t2) := hc
  have HF2 : Hid (Fl w2 (fun b => w1.heap.size ≤ b ∧ b < w2.heap.size) q ((intsOf c.nodes).map encI)) := hfl
  have HOc : Hid ((cmdA (csOf c) (.slice q c.nodes.length cap)).toList.toArray.all (·.oneCell') = true) := cmd_one _ rfl
  have HOv : Hid ((vcell ⟨(seqV xs 0 : Int), (seqV xs 1 : Int), csOf c, intsOf c.nodes⟩ (.slice q c.nodes.length cap)).toArray.all (·.oneCell') = true) := vcell_one _ rfl
  clear hc hfl hm
  go_upto_region 4 with (refine wpList_store_sub rfl 27 _ _ rfl 12 g 2 (.int .i64 (seqV xs 0 : Int) :: .int .i64 (seqV xs 1 : Int) :: zeroC.toList) (cmdA (csOf c) (.slice q c.nodes.length cap)).toList (vcell ⟨(seqV xs 0 : Int), (seqV xs 1 : Int), csOf c, intsOf c.nodes⟩ (.slice q c.nodes.length cap)) rfl rfl HL2.out szCmd rfl (by show 2 + 12 ≤ 14; decide) HOc.out rfl ?_; intro w3 hl3 k3)
  have HL3 : Hid (Lv w3 g (vcell ⟨(seqV xs 0 : Int), (seqV xs 1 : Int), csOf c, intsOf c.nodes⟩ (.slice q c.nodes.length cap))) := hl3
  have HK3 : Hid (Kp (fun b => b = r) w w3) := HK2.out.trans k3 (fun b hb e => by have := HO.out; omega)
  have HLh3 : Hid (Lv w3 h2 zeroV) := HLh2.out.keep k3 (fun e => by have := HO.out; omega)
  have HC3 : Hid (Cu Z w3 r t2) := HC2.out.keep k3 HO.out.2.2.2.2.1 (fun b hb e => HZ.out.1 (e ▸ hb))
  have HF3 : Hid (Fl w3 (fun b => w1.heap.size ≤ b ∧ b < w2.heap.size) q ((intsOf c.nodes).map encI)) := HF2.out.keep k3 (fun b hb e => by have := HU1.out; omega)
  have HS3 : Hid (w2.heap.size ≤ w3.heap.size) := k3.size
  clear hl3 k3
  go_wp2_with (first
    | (refine wpList_load_all rfl 72 _ rfl 14 g (vcell ⟨(seqV xs 0 : Int), (seqV xs 1 : Int), csOf c, intsOf c.nodes⟩ (.slice q c.nodes.length cap)) rfl HL3.out dsVote szVote rfl ?_)
    | (refine wpList_store_all rfl 72 _ _ rfl 14 h2 zeroV (vcell ⟨(seqV xs 0 : Int), (seqV xs 1 : Int), csOf c, intsOf c.nodes⟩ (.slice q c.nodes.length cap)) rfl rfl HLh3.out szVote rfl rfl HOv.out ?_; intro w4 hl4 k4))
  refine bodyPost_ret (res_cell Tryd.results63 _ _ h2 _ rfl (hl4.load dsVote szVote rfl)) rfl ?_
  refine ⟨?_, HK3.out.trans k4 (fun b hb e => by have := HO.out; omega)⟩
  unfold VtRes
  rw [rdVote_yes HS1.out HM.out]
  refine ⟨q, cap, rfl, (HF3.out.keep k4 (fun b hb e => by have := HO.out; have := HU1.out; omega)).mono (fun b hb => ⟨by have := HO.out; have := HU1.out; omega, by have := HS3.out; have := k4.size; omega⟩), HC3.out.keep k4 (fun e => HO.out.2.2.2.2.2.1 e.symm) (fun b hb e => HZ.out.2.1 (e ▸ hb))⟩
end Go.Proofs.YtoepemgflbmlcaaDoor
