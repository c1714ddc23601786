/- One call of the document's, done (laid by scripts/mkvx.py). -/
import Derived.Test.YtbbgplnenbkfeaaVw
namespace Go.Proofs.Ytbbgplnenbkfeaa
set_option linter.unusedVariables false
set_option linter.unusedSimpArgs false
open Go.RowKit Go.Deep Go.Maps

/-- the state behind a call, and what it is told -/
def doR (n : Int) (b : By) (r : Rc) : Int × By × Int :=
  if r.kind == 1 then (if n == 0 then (1, r.pb, 1) else (n, b, 2))
  else if r.kind == 2 then (if n == 1 then (n, b, 1) else (n, b, 3))
  else (if n == 1 then (2, by0, 1) else (n, b, 3))
def okR (n : Int) (b : By) (r : Rc) : Bool :=
  if r.kind == 2 && n == 1 && ansR r && r.says == 1 && decide (r.g.xs ≠ b.xs) then false else !ansR r || r.says == (doR n b r).2.2
theorem szSt : (Try.prog.info? 55).map (·.size) = some 2 := by kernel_rfl
theorem dsSt : ∃ d, Try.prog.underlying 55 = some d ∧ d.isRow = true := ⟨_, Try.underlying55, rfl⟩

set_option maxRecDepth 100000 in
set_option maxHeartbeats 6400000 in
theorem do_ok (n : Int) (b : By) (r : Rc) (w : World) (hb : b.ok w) (hr : r.ok w) :
    Calls Try.prog 39 #[.agg #[.int .i64 n, b.v], .agg (rcell r).toArray] w fun e w' => e = .returned (.tuple #[.agg #[.int .i64 (doR n b r).1, (doR n b r).2.1.v], .bool (okR n b r)]) ∧ Kp (fun _ => False) w w' := by
  obtain ⟨bv, bxs⟩ := b
  obtain ⟨⟨pb, cb, hbv, hbr⟩, hbn⟩ := hb
  dsimp only at hbv
  subst hbv
  obtain ⟨nb, hnb⟩ : ∃ x, x = bxs.length := ⟨_, rfl⟩
  rw [← hnb]
  obtain ⟨xa, hxa⟩ : ∃ xa, xa = (rcell r).toArray := ⟨_, rfl⟩
  rw [← hxa]
  have HX : Hid (xa = (rcell r).toArray) := hxa
  have HRr : Hid (r.ok w) := hr
  have HBr : Hid (Rb w pb bxs.length bxs) := hbr
  have HNb : Hid (nb = bxs.length) := hnb
  have e0 : rcell r = xa.toList := by rw [hxa]
  have HE0 : Hid (rcell r = xa.toList) := e0
  obtain ⟨u1, hu1⟩ : ∃ x, x = ((((w.alloc (.cells #[.int .i64 n, .slice pb nb cb] 55)).alloc (.cells xa 51)).alloc (.cells #[.int .i64 0, .slice none 0 0] 55)).alloc (.cells #[.int .i64 n, .slice pb nb cb] 55)) := ⟨_, rfl⟩
  have HLs : Hid (Lv u1 w.heap.size [.int .i64 n, .slice pb nb cb]) := by rw [hu1]; exact (((Lv.new w _ _).keep ((Kp.refl (fun _ => False) _).alloc _) id).keep ((Kp.refl (fun _ => False) _).alloc _) id).keep ((Kp.refl (fun _ => False) _).alloc _) id
  have HLc1 : Hid (Lv u1 (w.heap.size + 1) (rcell r)) := by
    have h1 := Lv.new (w.alloc (.cells #[.int .i64 n, .slice pb nb cb] 55)) xa 51
    have h2 := (h1.keep ((Kp.refl (fun _ => False) _).alloc (.cells #[.int .i64 0, .slice none 0 0] 55)) id).keep ((Kp.refl (fun _ => False) _).alloc (.cells #[.int .i64 n, .slice pb nb cb] 55)) id
    rw [← e0] at h2
    rw [hu1]
    show Lv _ _ _
    simpa using h2
  have HLr1 : Hid (Lv u1 (w.heap.size + 1 + 1) [.int .i64 0, .slice none 0 0]) := by
    have h1 := Lv.new ((w.alloc (.cells #[.int .i64 n, .slice pb nb cb] 55)).alloc (.cells xa 51)) #[.int .i64 0, .slice none 0 0] 55
    have h2 := h1.keep ((Kp.refl (fun _ => False) _).alloc (.cells #[.int .i64 n, .slice pb nb cb] 55)) id
    rw [hu1]
    show Lv _ _ _
    simpa using h2
  have HLn1 : Hid (Lv u1 (w.heap.size + 1 + 1 + 1) [.int .i64 n, .slice pb nb cb]) := by
    have h1 := Lv.new (((w.alloc (.cells #[.int .i64 n, .slice pb nb cb] 55)).alloc (.cells xa 51)).alloc (.cells #[.int .i64 0, .slice none 0 0] 55)) #[.int .i64 n, .slice pb nb cb] 55
    rw [hu1]
    show Lv _ _ _
    simpa using h1
  have HKu1 : Hid (Kp (fun _ => False) w u1) := by rw [hu1]; exact ((((Kp.refl _ _).alloc _).alloc _).alloc _).alloc _
  obtain ⟨kd, hkd⟩ : ∃ z, z = r.kind := ⟨_, rfl⟩
  have HKd : Hid (kd = r.kind) := hkd
  obtain ⟨sy, hsy⟩ : ∃ z, z = r.says := ⟨_, rfl⟩
  have HSy : Hid (sy = r.says) := hsy
  clear hxa hr hbr hbn hnb e0 hkd hsy
  go_enter Try.func39, Try.ntmps39
  go_upto_region 3 with fail
  rw [← hu1]
  obtain ⟨b3, hb3⟩ : ∃ x, x = w.heap.size + 1 + 1 + 1 := ⟨_, rfl⟩
  obtain ⟨b2, hb2⟩ : ∃ x, x = w.heap.size + 1 + 1 := ⟨_, rfl⟩
  obtain ⟨b1, hb1⟩ : ∃ x, x = w.heap.size + 1 := ⟨_, rfl⟩
  have HB : Hid (b1 = w.heap.size + 1 ∧ b2 = w.heap.size + 2 ∧ b3 = w.heap.size + 3) := ⟨hb1, hb2, hb3⟩
  rw [← hb3] at HLn1
  rw [← hb2] at HLr1
  rw [← hb1] at HLc1
  rw [← hb3, ← hb2, ← hb1]
  obtain ⟨b0, hb0⟩ : ∃ x, x = w.heap.size := ⟨_, rfl⟩
  have HB0 : Hid (b0 = w.heap.size) := hb0
  rw [← hb0] at HLs ⊢
  clear hb0 hb1 hb2 hb3 hu1
  have c2 : u1.cell? ⟨b1, 2, none⟩ = some (.int .i64 kd) := by rw [HKd.out]; exact HLc1.out.cell (j := 2) rfl
  have s0 : u1.cell? ⟨b0, 0, none⟩ = some (.int .i64 n) := HLs.out.cell (j := 0) rfl
  by_cases k1 : kd = 1
  · subst k1
    have hk1 : (r.kind == 1) = true := by rw [← HKd.out]; rfl
    have hk2 : (r.kind == 2) = false := by rw [← HKd.out]; rfl
    by_cases n0 : n = 0
    · subst n0
      obtain ⟨⟨pp, cp, ep, _⟩, _⟩ := HRr.out.p
      have HDo : Hid (doR 0 ⟨.slice pb nb cb, bxs⟩ r = (1, r.pb, 1)) := by show _ = _; unfold doR; rw [hk1]; rfl
      have HOk : Hid (okR 0 ⟨.slice pb nb cb, bxs⟩ r = (!ansR r || sy == 1)) := by show _ = _; unfold okR; rw [hk2, HDo.out, HSy.out]; rfl
      obtain ⟨np, hnp⟩ : ∃ x, x = r.pb.xs.length := ⟨_, rfl⟩
      rw [← hnp] at ep
      have HEp : Hid (r.pb.v = .slice pp np cp) := ep
      have c5 : u1.cell? ⟨b1, 5, none⟩ = some (.slice pp np cp) := by rw [← HEp.out]; exact HLc1.out.cell (j := 5) rfl
      clear hk1 hk2 ep hnp
      go_upto_region 16 with (refine wpList_store_all rfl 55 _ _ rfl 2 b3 [.int .i64 0, .slice pb nb cb] [.int .i64 1, .slice pp np cp] rfl rfl HLn1.out szSt rfl rfl (all_oneCell_toArray (fun x hx => by simp only [List.mem_cons, List.not_mem_nil, or_false] at hx; rcases hx with rfl | rfl <;> rfl)) ?_; intro u2 hl2 k2; have HLn : Hid (Lv u2 b3 [.int .i64 1, .slice pp np cp]) := hl2; have HLc : Hid (Lv u2 b1 (rcell r)) := HLc1.out.keep k2 (by have := HB.out; omega); have HLr : Hid (Lv u2 b2 [.int .i64 0, .slice none 0 0]) := HLr1.out.keep k2 (by have := HB.out; omega); have HKu : Hid (Kp (fun _ => False) w u2) := HKu1.out.trans k2 (fun b hb e => by have := HB.out; omega); clear hl2 k2)
      obtain ⟨an, han⟩ : ∃ b, b = ansR r := ⟨_, rfl⟩
      have HAe : Hid (an = ansR r) := han
      have HAn : Hid (∀ u, Calls Try.prog 37 #[.agg xa] u fun e w' => e = .returned (.bool an) ∧ Kp (fun _ => False) u w') := fun u => by rw [han, HX.out]; exact answered_ok r u
      clear han
      have kd : Kp (fun _ => False) u2 u2.drew := (Kp.refl _ _).drew
      have HLd : Hid (∀ (S : Nat → Prop) (u : World), Kp S u2 u → ¬ S b1 → ¬ S b3 → (loadVar 55 ⟨b3, 0, none⟩).run Try.prog u = .ok (.agg #[.int .i64 1, .slice pp np cp]) u ∧ (loadVar 51 ⟨b1, 0, none⟩).run Try.prog u = .ok (.agg xa) u ∧ u.cell? ⟨b1, 3, none⟩ = some (.int .i64 sy)) := fun S u ku n1 n3 => by
        have l1 := HLc.out.keep ku n1
        have l3 := HLn.out.keep ku n3
        refine ⟨l3.load dsSt szSt rfl, ?_, by rw [HSy.out]; exact l1.cell (j := 3) rfl⟩
        have := l1.load dsRc szRc rfl
        rw [HX.out]
        exact this
      have HLr2 : Hid (∀ u, Kp (fun _ => False) u2 u → Lv u b2 [.int .i64 0, .slice none 0 0]) := fun u ku => HLr.out.keep ku id
      cases an with
      | true =>
        go_wp2_with fail
        refine dot_region ⟨by kernel_rfl, by kernel_rfl, by kernel_rfl, by kernel_rfl, by kernel_rfl, by kernel_rfl, by kernel_rfl, by kernel_rfl, by kernel_rfl, by kernel_rfl, by kernel_rfl, by kernel_rfl, by kernel_rfl, by kernel_rfl, by kernel_rfl, by kernel_rfl, by kernel_rfl, by kernel_rfl, by kernel_rfl, by kernel_rfl⟩ b1 b3 b2 1 1 sy pp np cp xa (fun d _ _ _ _ h => by cases d <;> exact h) (by rfl) (by rfl) (by rfl) (by rfl) (by rfl) (HLd.out _ _ kd id id) (fun z => Kp (fun _ => False) u2 z) ((HAn.out _).mono ?_) ?_ ?_
        · rintro e9 w9 ⟨rfl, k9⟩
          exact ⟨rfl, HLd.out _ _ (kd.trans k9 (fun _ _ e => e)) id id, kd.trans k9 (fun _ _ e => e)⟩
        · intro w9 k9
          have lr := HLr2.out w9 k9
          have lr1 := lr.set1 0 (.int .i64 1) (by simp)
          have lr2 := lr1.set1 1 (.slice pp np cp) (by simp)
          have k3 : Kp (fun b => b = b2) u2 ((w9.setCell ⟨b2, 0, none⟩ (.int .i64 1)).setCell ⟨b2, 1, none⟩ (.slice pp np cp)) := by
            have kz : Kp (fun b => b = b2) u2 w9 := k9.mono (fun _ _ e => e.elim)
            have kz1 : Kp (fun b => b = b2) u2 (w9.setCell ⟨b2, 0, none⟩ (.int .i64 1)) := kz.setCell (fun _ => rfl) _
            exact kz1.setCell (fun _ => rfl) _
          exact ⟨⟨_, _, lr.cell (j := 0) rfl, lr1.cell (j := 1) rfl, lr.fz (by simp), lr1.fz (by simp)⟩, HLd.out _ _ k3 (by have := HB.out; omega) (by have := HB.out; omega)⟩
        · intro w9 k9
          have lr := HLr2.out w9 k9
          have lr2 := (lr.set1 0 (.int .i64 1) (by simp)).set1 1 (.slice pp np cp) (by simp)
          have HK3 : Hid (Kp (fun b => b = b2) u2 ((w9.setCell ⟨b2, 0, none⟩ (.int .i64 1)).setCell ⟨b2, 1, none⟩ (.slice pp np cp))) := by
            have kz : Kp (fun b => b = b2) u2 w9 := k9.mono (fun _ _ e => e.elim)
            have kz1 : Kp (fun b => b = b2) u2 (w9.setCell ⟨b2, 0, none⟩ (.int .i64 1)) := kz.setCell (fun _ => rfl) _
            exact kz1.setCell (fun _ => rfl) _
          have HL9 : Hid (Lv ((w9.setCell ⟨b2, 0, none⟩ (.int .i64 1)).setCell ⟨b2, 1, none⟩ (.slice pp np cp)) b2 [.int .i64 1, .slice pp np cp]) := lr2
          clear lr lr2 k9 kd
          simp only [Act.put, List.setIfInBounds_toArray, List.set_cons_succ, List.set_cons_zero]
          go_wp2_with fail
          have hld := HL9.out.load dsSt szSt rfl
          refine bodyPost_ret (res_cell_tmp Try.results39 _ _ b2 _ rfl hld) rfl ?_
          refine ⟨?_, HKu.out.trans HK3.out (fun b hb e => by have := HB.out; omega)⟩
          rw [HDo.out, HOk.out, ← HAe.out]; show _ = Ending.returned (.tuple #[.agg #[.int .i64 1, r.pb.v], _]); rw [HEp.out]; rfl
      | false =>
        go_wp2_with fail
        refine dof_region ⟨by kernel_rfl, by kernel_rfl, by kernel_rfl, by kernel_rfl, by kernel_rfl, by kernel_rfl, by kernel_rfl, by kernel_rfl, by kernel_rfl, by kernel_rfl, by kernel_rfl, by kernel_rfl, by kernel_rfl, by kernel_rfl, by kernel_rfl, by kernel_rfl, by kernel_rfl, by kernel_rfl, by kernel_rfl, by kernel_rfl⟩ b1 b3 b2 1 1 sy pp np cp xa (fun d _ _ _ _ h => by cases d <;> exact h) (by rfl) (by rfl) (by rfl) (by rfl) (by rfl) (HLd.out _ _ kd id id) (fun z => Kp (fun _ => False) u2 z) ((HAn.out _).mono ?_) ?_ ?_
        · rintro e9 w9 ⟨rfl, k9⟩
          exact ⟨rfl, HLd.out _ _ (kd.trans k9 (fun _ _ e => e)) id id, kd.trans k9 (fun _ _ e => e)⟩
        · intro w9 k9
          have lr := HLr2.out w9 k9
          have lr1 := lr.set1 0 (.int .i64 1) (by simp)
          have lr2 := lr1.set1 1 (.slice pp np cp) (by simp)
          have k3 : Kp (fun b => b = b2) u2 ((w9.setCell ⟨b2, 0, none⟩ (.int .i64 1)).setCell ⟨b2, 1, none⟩ (.slice pp np cp)) := by
            have kz : Kp (fun b => b = b2) u2 w9 := k9.mono (fun _ _ e => e.elim)
            have kz1 : Kp (fun b => b = b2) u2 (w9.setCell ⟨b2, 0, none⟩ (.int .i64 1)) := kz.setCell (fun _ => rfl) _
            exact kz1.setCell (fun _ => rfl) _
          exact ⟨⟨_, _, lr.cell (j := 0) rfl, lr1.cell (j := 1) rfl, lr.fz (by simp), lr1.fz (by simp)⟩, HLd.out _ _ k3 (by have := HB.out; omega) (by have := HB.out; omega)⟩
        · intro w9 k9
          have lr := HLr2.out w9 k9
          have lr2 := (lr.set1 0 (.int .i64 1) (by simp)).set1 1 (.slice pp np cp) (by simp)
          have HK3 : Hid (Kp (fun b => b = b2) u2 ((w9.setCell ⟨b2, 0, none⟩ (.int .i64 1)).setCell ⟨b2, 1, none⟩ (.slice pp np cp))) := by
            have kz : Kp (fun b => b = b2) u2 w9 := k9.mono (fun _ _ e => e.elim)
            have kz1 : Kp (fun b => b = b2) u2 (w9.setCell ⟨b2, 0, none⟩ (.int .i64 1)) := kz.setCell (fun _ => rfl) _
            exact kz1.setCell (fun _ => rfl) _
          have HL9 : Hid (Lv ((w9.setCell ⟨b2, 0, none⟩ (.int .i64 1)).setCell ⟨b2, 1, none⟩ (.slice pp np cp)) b2 [.int .i64 1, .slice pp np cp]) := lr2
          clear lr lr2 k9 kd
          simp only [Act.put, List.setIfInBounds_toArray, List.set_cons_succ, List.set_cons_zero]
          go_wp2_with fail
          have hld := HL9.out.load dsSt szSt rfl
          refine bodyPost_ret (res_cell_tmp Try.results39 _ _ b2 _ rfl hld) rfl ?_
          refine ⟨?_, HKu.out.trans HK3.out (fun b hb e => by have := HB.out; omega)⟩
          rw [HDo.out, HOk.out, ← HAe.out]; show _ = Ending.returned (.tuple #[.agg #[.int .i64 1, r.pb.v], _]); rw [HEp.out]; rfl
    · have n0' : (n == 0) = false := by simpa using n0
      have HDo : Hid (doR n ⟨.slice pb nb cb, bxs⟩ r = (n, ⟨.slice pb nb cb, bxs⟩, 2)) := by show _ = _; unfold doR; rw [hk1, n0']; rfl
      have HOk : Hid (okR n ⟨.slice pb nb cb, bxs⟩ r = (!ansR r || sy == 2)) := by show _ = _; unfold okR; rw [hk2, HDo.out, HSy.out]; rfl
      clear hk1 hk2
      go_upto_region 16 with fail
      have HLc := HLc1
      have HLr := HLr1
      have HLn := HLn1
      have HKu := HKu1
      obtain ⟨an, han⟩ : ∃ b, b = ansR r := ⟨_, rfl⟩
      have HAe : Hid (an = ansR r) := han
      have HAn : Hid (∀ u, Calls Try.prog 37 #[.agg xa] u fun e w' => e = .returned (.bool an) ∧ Kp (fun _ => False) u w') := fun u => by rw [han, HX.out]; exact answered_ok r u
      clear han
      have kd : Kp (fun _ => False) u1 u1.drew := (Kp.refl _ _).drew
      have HLd : Hid (∀ (S : Nat → Prop) (u : World), Kp S u1 u → ¬ S b1 → ¬ S b3 → (loadVar 55 ⟨b3, 0, none⟩).run Try.prog u = .ok (.agg #[.int .i64 n, .slice pb nb cb]) u ∧ (loadVar 51 ⟨b1, 0, none⟩).run Try.prog u = .ok (.agg xa) u ∧ u.cell? ⟨b1, 3, none⟩ = some (.int .i64 sy)) := fun S u ku n1 n3 => by
        have l1 := HLc.out.keep ku n1
        have l3 := HLn.out.keep ku n3
        refine ⟨l3.load dsSt szSt rfl, ?_, by rw [HSy.out]; exact l1.cell (j := 3) rfl⟩
        have := l1.load dsRc szRc rfl
        rw [HX.out]
        exact this
      have HLr2 : Hid (∀ u, Kp (fun _ => False) u1 u → Lv u b2 [.int .i64 0, .slice none 0 0]) := fun u ku => HLr.out.keep ku id
      cases an with
      | true =>
        go_wp2_with fail
        refine dot_region ⟨by kernel_rfl, by kernel_rfl, by kernel_rfl, by kernel_rfl, by kernel_rfl, by kernel_rfl, by kernel_rfl, by kernel_rfl, by kernel_rfl, by kernel_rfl, by kernel_rfl, by kernel_rfl, by kernel_rfl, by kernel_rfl, by kernel_rfl, by kernel_rfl, by kernel_rfl, by kernel_rfl, by kernel_rfl, by kernel_rfl⟩ b1 b3 b2 n 2 sy pb nb cb xa (fun d _ _ _ _ h => by cases d <;> exact h) (by rfl) (by rfl) (by rfl) (by rfl) (by rfl) (HLd.out _ _ kd id id) (fun z => Kp (fun _ => False) u1 z) ((HAn.out _).mono ?_) ?_ ?_
        · rintro e9 w9 ⟨rfl, k9⟩
          exact ⟨rfl, HLd.out _ _ (kd.trans k9 (fun _ _ e => e)) id id, kd.trans k9 (fun _ _ e => e)⟩
        · intro w9 k9
          have lr := HLr2.out w9 k9
          have lr1 := lr.set1 0 (.int .i64 n) (by simp)
          have lr2 := lr1.set1 1 (.slice pb nb cb) (by simp)
          have k3 : Kp (fun b => b = b2) u1 ((w9.setCell ⟨b2, 0, none⟩ (.int .i64 n)).setCell ⟨b2, 1, none⟩ (.slice pb nb cb)) := by
            have kz : Kp (fun b => b = b2) u1 w9 := k9.mono (fun _ _ e => e.elim)
            have kz1 : Kp (fun b => b = b2) u1 (w9.setCell ⟨b2, 0, none⟩ (.int .i64 n)) := kz.setCell (fun _ => rfl) _
            exact kz1.setCell (fun _ => rfl) _
          exact ⟨⟨_, _, lr.cell (j := 0) rfl, lr1.cell (j := 1) rfl, lr.fz (by simp), lr1.fz (by simp)⟩, HLd.out _ _ k3 (by have := HB.out; omega) (by have := HB.out; omega)⟩
        · intro w9 k9
          have lr := HLr2.out w9 k9
          have lr2 := (lr.set1 0 (.int .i64 n) (by simp)).set1 1 (.slice pb nb cb) (by simp)
          have HK3 : Hid (Kp (fun b => b = b2) u1 ((w9.setCell ⟨b2, 0, none⟩ (.int .i64 n)).setCell ⟨b2, 1, none⟩ (.slice pb nb cb))) := by
            have kz : Kp (fun b => b = b2) u1 w9 := k9.mono (fun _ _ e => e.elim)
            have kz1 : Kp (fun b => b = b2) u1 (w9.setCell ⟨b2, 0, none⟩ (.int .i64 n)) := kz.setCell (fun _ => rfl) _
            exact kz1.setCell (fun _ => rfl) _
          have HL9 : Hid (Lv ((w9.setCell ⟨b2, 0, none⟩ (.int .i64 n)).setCell ⟨b2, 1, none⟩ (.slice pb nb cb)) b2 [.int .i64 n, .slice pb nb cb]) := lr2
          clear lr lr2 k9 kd
          simp only [Act.put, List.setIfInBounds_toArray, List.set_cons_succ, List.set_cons_zero]
          go_wp2_with fail
          have hld := HL9.out.load dsSt szSt rfl
          refine bodyPost_ret (res_cell_tmp Try.results39 _ _ b2 _ rfl hld) rfl ?_
          refine ⟨?_, HKu.out.trans HK3.out (fun b hb e => by have := HB.out; omega)⟩
          rw [HDo.out, HOk.out, ← HAe.out]; rfl
      | false =>
        go_wp2_with fail
        refine dof_region ⟨by kernel_rfl, by kernel_rfl, by kernel_rfl, by kernel_rfl, by kernel_rfl, by kernel_rfl, by kernel_rfl, by kernel_rfl, by kernel_rfl, by kernel_rfl, by kernel_rfl, by kernel_rfl, by kernel_rfl, by kernel_rfl, by kernel_rfl, by kernel_rfl, by kernel_rfl, by kernel_rfl, by kernel_rfl, by kernel_rfl⟩ b1 b3 b2 n 2 sy pb nb cb xa (fun d _ _ _ _ h => by cases d <;> exact h) (by rfl) (by rfl) (by rfl) (by rfl) (by rfl) (HLd.out _ _ kd id id) (fun z => Kp (fun _ => False) u1 z) ((HAn.out _).mono ?_) ?_ ?_
        · rintro e9 w9 ⟨rfl, k9⟩
          exact ⟨rfl, HLd.out _ _ (kd.trans k9 (fun _ _ e => e)) id id, kd.trans k9 (fun _ _ e => e)⟩
        · intro w9 k9
          have lr := HLr2.out w9 k9
          have lr1 := lr.set1 0 (.int .i64 n) (by simp)
          have lr2 := lr1.set1 1 (.slice pb nb cb) (by simp)
          have k3 : Kp (fun b => b = b2) u1 ((w9.setCell ⟨b2, 0, none⟩ (.int .i64 n)).setCell ⟨b2, 1, none⟩ (.slice pb nb cb)) := by
            have kz : Kp (fun b => b = b2) u1 w9 := k9.mono (fun _ _ e => e.elim)
            have kz1 : Kp (fun b => b = b2) u1 (w9.setCell ⟨b2, 0, none⟩ (.int .i64 n)) := kz.setCell (fun _ => rfl) _
            exact kz1.setCell (fun _ => rfl) _
          exact ⟨⟨_, _, lr.cell (j := 0) rfl, lr1.cell (j := 1) rfl, lr.fz (by simp), lr1.fz (by simp)⟩, HLd.out _ _ k3 (by have := HB.out; omega) (by have := HB.out; omega)⟩
        · intro w9 k9
          have lr := HLr2.out w9 k9
          have lr2 := (lr.set1 0 (.int .i64 n) (by simp)).set1 1 (.slice pb nb cb) (by simp)
          have HK3 : Hid (Kp (fun b => b = b2) u1 ((w9.setCell ⟨b2, 0, none⟩ (.int .i64 n)).setCell ⟨b2, 1, none⟩ (.slice pb nb cb))) := by
            have kz : Kp (fun b => b = b2) u1 w9 := k9.mono (fun _ _ e => e.elim)
            have kz1 : Kp (fun b => b = b2) u1 (w9.setCell ⟨b2, 0, none⟩ (.int .i64 n)) := kz.setCell (fun _ => rfl) _
            exact kz1.setCell (fun _ => rfl) _
          have HL9 : Hid (Lv ((w9.setCell ⟨b2, 0, none⟩ (.int .i64 n)).setCell ⟨b2, 1, none⟩ (.slice pb nb cb)) b2 [.int .i64 n, .slice pb nb cb]) := lr2
          clear lr lr2 k9 kd
          simp only [Act.put, List.setIfInBounds_toArray, List.set_cons_succ, List.set_cons_zero]
          go_wp2_with fail
          have hld := HL9.out.load dsSt szSt rfl
          refine bodyPost_ret (res_cell_tmp Try.results39 _ _ b2 _ rfl hld) rfl ?_
          refine ⟨?_, HKu.out.trans HK3.out (fun b hb e => by have := HB.out; omega)⟩
          rw [HDo.out, HOk.out, ← HAe.out]; rfl
  · have k1' : (kd == 1) = false := by simpa using k1
    have hk1 : (r.kind == 1) = false := by rw [← HKd.out]; exact k1'
    by_cases k2 : kd = 2
    · subst k2
      have hk2 : (r.kind == 2) = true := by rw [← HKd.out]; rfl
      by_cases n1 : n = 1
      · subst n1
        have HDo : Hid (doR 1 ⟨.slice pb nb cb, bxs⟩ r = (1, ⟨.slice pb nb cb, bxs⟩, 1)) := by show _ = _; unfold doR; rw [hk1, hk2]; rfl
        obtain ⟨an0, han0⟩ : ∃ b, b = ansR r := ⟨_, rfl⟩
        have HAn0 : Hid (∀ u, Calls Try.prog 37 #[.agg xa] u fun e w' => e = .returned (.bool an0) ∧ Kp (fun _ => False) u w') := fun u => by rw [han0, HX.out]; exact answered_ok r u
        obtain ⟨⟨pg, cg, eg, rg⟩, _⟩ := HRr.out.g
        have HVg : Hid (∀ u, Kp (fun _ => False) w u → (convert 27 9 (.slice pg r.g.xs.length cg)).run Try.prog u = .ok (.string (str r.g.xs)) u) := fun u ku => convert_bytes pg _ cg _ u (rg.keep0 ku)
        have HVb : Hid (∀ u, Kp (fun _ => False) w u → (convert 27 9 (.slice pb nb cb)).run Try.prog u = .ok (.string (str bxs)) u) := fun u ku => by rw [HNb.out]; exact convert_bytes pb _ cb _ u (HBr.out.keep0 ku)
        have HEq : Hid ((r.g.xs = bxs ∧ (str r.g.xs).toList = (str bxs).toList) ∨ (r.g.xs ≠ bxs ∧ ((str r.g.xs).toList == (str bxs).toList) = false)) := by
          by_cases e : r.g.xs = bxs
          · exact Or.inl ⟨e, by rw [e]⟩
          · exact Or.inr ⟨e, str_toList_ne2 rg.byte HBr.out.byte e⟩
        obtain ⟨ng, hng⟩ : ∃ x, x = r.g.xs.length := ⟨_, rfl⟩
        rw [← hng] at HVg eg
        have HEg : Hid (r.g.v = .slice pg ng cg) := eg
        obtain ⟨sg, hsg⟩ : ∃ x, x = str r.g.xs := ⟨_, rfl⟩
        obtain ⟨sb, hsb⟩ : ∃ x, x = str bxs := ⟨_, rfl⟩
        rw [← hsg] at HVg HEq
        rw [← hsb] at HVb HEq
        have HOk0 : Hid (okR 1 ⟨.slice pb nb cb, bxs⟩ r = if an0 && sy == 1 && decide (r.g.xs ≠ bxs) then false else (!ansR r || sy == 1)) := by show _ = _; unfold okR; rw [hk2, HDo.out, HSy.out, han0]; rfl
        clear hk1 hk2 han0 rg eg hng hsg hsb
        by_cases hear : an0 = true ∧ sy = 1 ∧ r.g.xs ≠ bxs
        · obtain ⟨rfl, rfl, hne⟩ := hear
          have HOk : Hid (okR 1 ⟨.slice pb nb cb, bxs⟩ r = false) := by show _ = _; rw [HOk0.out]; simp [hne]
          have hst : (sg.toList == sb.toList) = false := by
            rcases HEq.out with q | q
            · exact absurd q.1 hne
            · exact q.2
          have hst2 : (sg.toList != sb.toList) = true := by unfold bne; rw [hst]; rfl
          clear HOk0 HEq
          go_wp2_with (first
            | (refine wpList_load_all rfl 51 _ rfl 7 b1 (rcell r) rfl HLc1.out dsRc szRc rfl ?_; rw [← HX.out])
            | (go_at_call 37; refine (HAn0.out _).mono ?_; rintro e9 u2 ⟨rfl, k2⟩; have HKu : Hid (Kp (fun _ => False) w u2) := HKu1.out.trans k2 (fun _ _ e => e); have HLs2 : Hid (Lv u2 b0 [.int .i64 1, .slice pb nb cb]) := HLs.out.keep k2 id; have HLr2 : Hid (Lv u2 b2 [.int .i64 0, .slice none 0 0]) := HLr1.out.keep k2 id; have c3 : u2.cell? ⟨b1, 3, none⟩ = some (.int .i64 1) := (by rw [HSy.out]; exact (HLc1.out.keep k2 id).cell (j := 3) rfl); have c6 : u2.cell? ⟨b1, 6, none⟩ = some (.slice pg ng cg) := (by rw [← HEg.out]; exact (HLc1.out.keep k2 id).cell (j := 6) rfl); have s1 : u2.cell? ⟨b0, 1, none⟩ = some (.slice pb nb cb) := HLs2.out.cell (j := 1) rfl; have v1 := HVg.out u2 HKu.out; have v2 := HVb.out u2 HKu.out; clear k2)
            | (refine wpList_load_all rfl 55 _ rfl 2 b0 [.int .i64 1, .slice pb nb cb] rfl HLs2.out dsSt szSt rfl ?_)
            | (refine wpList_store_all rfl 55 _ _ rfl 2 b2 [.int .i64 0, .slice none 0 0] [.int .i64 1, .slice pb nb cb] rfl rfl HLr2.out szSt rfl rfl (all_oneCell_toArray (fun x hx => by simp only [List.mem_cons, List.not_mem_nil, or_false] at hx; rcases hx with rfl | rfl <;> rfl)) ?_; intro u3 hl3 k3))
          have hld := hl3.load dsSt szSt rfl
          refine bodyPost_ret (res_cell_tmp Try.results39 _ _ b2 _ rfl hld) rfl ?_
          refine ⟨?_, HKu.out.trans k3 (fun b hb e => by have := HB.out; omega)⟩
          rw [HDo.out, HOk.out]; rfl
        · have HOk : Hid (okR 1 ⟨.slice pb nb cb, bxs⟩ r = (!ansR r || sy == 1)) := by
            show _ = _
            rw [HOk0.out]
            by_cases q1 : an0 = true
            · by_cases q2 : sy = 1
              · have q3 : r.g.xs = bxs := by
                  by_cases q : r.g.xs = bxs
                  · exact q
                  · exact absurd ⟨q1, q2, q⟩ hear
                simp [q3]
              · simp [q2]
            · simp [q1]
          have KEEPED : True := trivial
          clear HOk0
          cases an0 with
          | false =>
            clear hear HEq
            go_upto_region 16 with (first | (refine wpList_load_all rfl 51 _ rfl 7 b1 (rcell r) rfl HLc1.out dsRc szRc rfl ?_; rw [← HX.out]) | (go_at_call 37; refine (HAn0.out _).mono ?_; rintro e9 u2 ⟨rfl, k2⟩; have HKu : Hid (Kp (fun _ => False) w u2) := HKu1.out.trans k2 (fun _ _ e => e); have HLn : Hid (Lv u2 b3 [.int .i64 1, .slice pb nb cb]) := HLn1.out.keep k2 id; have HLc : Hid (Lv u2 b1 (rcell r)) := HLc1.out.keep k2 id; have HLr : Hid (Lv u2 b2 [.int .i64 0, .slice none 0 0]) := HLr1.out.keep k2 id; have c3 : u2.cell? ⟨b1, 3, none⟩ = some (.int .i64 sy) := (by first | (rw [HSy.out]; exact HLc.out.cell (j := 3) rfl)); have c6 : u2.cell? ⟨b1, 6, none⟩ = some (.slice pg ng cg) := (by rw [← HEg.out]; exact HLc.out.cell (j := 6) rfl); have s1 : u2.cell? ⟨b0, 1, none⟩ = some (.slice pb nb cb) := (HLs.out.keep k2 id).cell (j := 1) rfl; have v1 := HVg.out u2 HKu.out; have v2 := HVb.out u2 HKu.out; clear k2))
            clear c3 c6 s1 v1 v2
            obtain ⟨an, han⟩ : ∃ b, b = ansR r := ⟨_, rfl⟩
            have HAe : Hid (an = ansR r) := han
            have HAn : Hid (∀ u, Calls Try.prog 37 #[.agg xa] u fun e w' => e = .returned (.bool an) ∧ Kp (fun _ => False) u w') := fun u => by rw [han, HX.out]; exact answered_ok r u
            clear han
            have kd : Kp (fun _ => False) u2 u2.drew := (Kp.refl _ _).drew
            have HLd : Hid (∀ (S : Nat → Prop) (u : World), Kp S u2 u → ¬ S b1 → ¬ S b3 → (loadVar 55 ⟨b3, 0, none⟩).run Try.prog u = .ok (.agg #[.int .i64 1, .slice pb nb cb]) u ∧ (loadVar 51 ⟨b1, 0, none⟩).run Try.prog u = .ok (.agg xa) u ∧ u.cell? ⟨b1, 3, none⟩ = some (.int .i64 sy)) := fun S u ku n1 n3 => by
              have l1 := HLc.out.keep ku n1
              have l3 := HLn.out.keep ku n3
              refine ⟨l3.load dsSt szSt rfl, ?_, by rw [HSy.out]; exact l1.cell (j := 3) rfl⟩
              have := l1.load dsRc szRc rfl
              rw [HX.out]
              exact this
            have HLr2 : Hid (∀ u, Kp (fun _ => False) u2 u → Lv u b2 [.int .i64 0, .slice none 0 0]) := fun u ku => HLr.out.keep ku id
            cases an with
            | true =>
              go_wp2_with fail
              refine dot_region ⟨by kernel_rfl, by kernel_rfl, by kernel_rfl, by kernel_rfl, by kernel_rfl, by kernel_rfl, by kernel_rfl, by kernel_rfl, by kernel_rfl, by kernel_rfl, by kernel_rfl, by kernel_rfl, by kernel_rfl, by kernel_rfl, by kernel_rfl, by kernel_rfl, by kernel_rfl, by kernel_rfl, by kernel_rfl, by kernel_rfl⟩ b1 b3 b2 1 1 sy pb nb cb xa (fun d _ _ _ _ h => by cases d <;> exact h) (by rfl) (by rfl) (by rfl) (by rfl) (by rfl) (HLd.out _ _ kd id id) (fun z => Kp (fun _ => False) u2 z) ((HAn.out _).mono ?_) ?_ ?_
              · rintro e9 w9 ⟨rfl, k9⟩
                exact ⟨rfl, HLd.out _ _ (kd.trans k9 (fun _ _ e => e)) id id, kd.trans k9 (fun _ _ e => e)⟩
              · intro w9 k9
                have lr := HLr2.out w9 k9
                have lr1 := lr.set1 0 (.int .i64 1) (by simp)
                have lr2 := lr1.set1 1 (.slice pb nb cb) (by simp)
                have k3 : Kp (fun b => b = b2) u2 ((w9.setCell ⟨b2, 0, none⟩ (.int .i64 1)).setCell ⟨b2, 1, none⟩ (.slice pb nb cb)) := by
                  have kz : Kp (fun b => b = b2) u2 w9 := k9.mono (fun _ _ e => e.elim)
                  have kz1 : Kp (fun b => b = b2) u2 (w9.setCell ⟨b2, 0, none⟩ (.int .i64 1)) := kz.setCell (fun _ => rfl) _
                  exact kz1.setCell (fun _ => rfl) _
                exact ⟨⟨_, _, lr.cell (j := 0) rfl, lr1.cell (j := 1) rfl, lr.fz (by simp), lr1.fz (by simp)⟩, HLd.out _ _ k3 (by have := HB.out; omega) (by have := HB.out; omega)⟩
              · intro w9 k9
                have lr := HLr2.out w9 k9
                have lr2 := (lr.set1 0 (.int .i64 1) (by simp)).set1 1 (.slice pb nb cb) (by simp)
                have HK3 : Hid (Kp (fun b => b = b2) u2 ((w9.setCell ⟨b2, 0, none⟩ (.int .i64 1)).setCell ⟨b2, 1, none⟩ (.slice pb nb cb))) := by
                  have kz : Kp (fun b => b = b2) u2 w9 := k9.mono (fun _ _ e => e.elim)
                  have kz1 : Kp (fun b => b = b2) u2 (w9.setCell ⟨b2, 0, none⟩ (.int .i64 1)) := kz.setCell (fun _ => rfl) _
                  exact kz1.setCell (fun _ => rfl) _
                have HL9 : Hid (Lv ((w9.setCell ⟨b2, 0, none⟩ (.int .i64 1)).setCell ⟨b2, 1, none⟩ (.slice pb nb cb)) b2 [.int .i64 1, .slice pb nb cb]) := lr2
                clear lr lr2 k9 kd
                simp only [Act.put, List.setIfInBounds_toArray, List.set_cons_succ, List.set_cons_zero]
                go_wp2_with fail
                have hld := HL9.out.load dsSt szSt rfl
                refine bodyPost_ret (res_cell_tmp Try.results39 _ _ b2 _ rfl hld) rfl ?_
                refine ⟨?_, HKu.out.trans HK3.out (fun b hb e => by have := HB.out; omega)⟩
                rw [HDo.out, HOk.out, ← HAe.out]; rfl
            | false =>
              go_wp2_with fail
              refine dof_region ⟨by kernel_rfl, by kernel_rfl, by kernel_rfl, by kernel_rfl, by kernel_rfl, by kernel_rfl, by kernel_rfl, by kernel_rfl, by kernel_rfl, by kernel_rfl, by kernel_rfl, by kernel_rfl, by kernel_rfl, by kernel_rfl, by kernel_rfl, by kernel_rfl, by kernel_rfl, by kernel_rfl, by kernel_rfl, by kernel_rfl⟩ b1 b3 b2 1 1 sy pb nb cb xa (fun d _ _ _ _ h => by cases d <;> exact h) (by rfl) (by rfl) (by rfl) (by rfl) (by rfl) (HLd.out _ _ kd id id) (fun z => Kp (fun _ => False) u2 z) ((HAn.out _).mono ?_) ?_ ?_
              · rintro e9 w9 ⟨rfl, k9⟩
                exact ⟨rfl, HLd.out _ _ (kd.trans k9 (fun _ _ e => e)) id id, kd.trans k9 (fun _ _ e => e)⟩
              · intro w9 k9
                have lr := HLr2.out w9 k9
                have lr1 := lr.set1 0 (.int .i64 1) (by simp)
                have lr2 := lr1.set1 1 (.slice pb nb cb) (by simp)
                have k3 : Kp (fun b => b = b2) u2 ((w9.setCell ⟨b2, 0, none⟩ (.int .i64 1)).setCell ⟨b2, 1, none⟩ (.slice pb nb cb)) := by
                  have kz : Kp (fun b => b = b2) u2 w9 := k9.mono (fun _ _ e => e.elim)
                  have kz1 : Kp (fun b => b = b2) u2 (w9.setCell ⟨b2, 0, none⟩ (.int .i64 1)) := kz.setCell (fun _ => rfl) _
                  exact kz1.setCell (fun _ => rfl) _
                exact ⟨⟨_, _, lr.cell (j := 0) rfl, lr1.cell (j := 1) rfl, lr.fz (by simp), lr1.fz (by simp)⟩, HLd.out _ _ k3 (by have := HB.out; omega) (by have := HB.out; omega)⟩
              · intro w9 k9
                have lr := HLr2.out w9 k9
                have lr2 := (lr.set1 0 (.int .i64 1) (by simp)).set1 1 (.slice pb nb cb) (by simp)
                have HK3 : Hid (Kp (fun b => b = b2) u2 ((w9.setCell ⟨b2, 0, none⟩ (.int .i64 1)).setCell ⟨b2, 1, none⟩ (.slice pb nb cb))) := by
                  have kz : Kp (fun b => b = b2) u2 w9 := k9.mono (fun _ _ e => e.elim)
                  have kz1 : Kp (fun b => b = b2) u2 (w9.setCell ⟨b2, 0, none⟩ (.int .i64 1)) := kz.setCell (fun _ => rfl) _
                  exact kz1.setCell (fun _ => rfl) _
                have HL9 : Hid (Lv ((w9.setCell ⟨b2, 0, none⟩ (.int .i64 1)).setCell ⟨b2, 1, none⟩ (.slice pb nb cb)) b2 [.int .i64 1, .slice pb nb cb]) := lr2
                clear lr lr2 k9 kd
                simp only [Act.put, List.setIfInBounds_toArray, List.set_cons_succ, List.set_cons_zero]
                go_wp2_with fail
                have hld := HL9.out.load dsSt szSt rfl
                refine bodyPost_ret (res_cell_tmp Try.results39 _ _ b2 _ rfl hld) rfl ?_
                refine ⟨?_, HKu.out.trans HK3.out (fun b hb e => by have := HB.out; omega)⟩
                rw [HDo.out, HOk.out, ← HAe.out]; rfl
          | true =>
            by_cases hs1 : sy = 1
            · subst hs1
              have hst : (sg.toList == sb.toList) = true := by
                rcases HEq.out with q | q
                · rw [q.2]; simp
                · exact absurd ⟨rfl, rfl, q.1⟩ hear
              have hst2 : (sg.toList != sb.toList) = false := by unfold bne; rw [hst]; rfl
              clear hear HEq
              go_upto_region 16 with (first | (refine wpList_load_all rfl 51 _ rfl 7 b1 (rcell r) rfl HLc1.out dsRc szRc rfl ?_; rw [← HX.out]) | (go_at_call 37; refine (HAn0.out _).mono ?_; rintro e9 u2 ⟨rfl, k2⟩; have HKu : Hid (Kp (fun _ => False) w u2) := HKu1.out.trans k2 (fun _ _ e => e); have HLn : Hid (Lv u2 b3 [.int .i64 1, .slice pb nb cb]) := HLn1.out.keep k2 id; have HLc : Hid (Lv u2 b1 (rcell r)) := HLc1.out.keep k2 id; have HLr : Hid (Lv u2 b2 [.int .i64 0, .slice none 0 0]) := HLr1.out.keep k2 id; have c3 : u2.cell? ⟨b1, 3, none⟩ = some (.int .i64 1) := (by first | (rw [HSy.out]; exact HLc.out.cell (j := 3) rfl)); have c6 : u2.cell? ⟨b1, 6, none⟩ = some (.slice pg ng cg) := (by rw [← HEg.out]; exact HLc.out.cell (j := 6) rfl); have s1 : u2.cell? ⟨b0, 1, none⟩ = some (.slice pb nb cb) := (HLs.out.keep k2 id).cell (j := 1) rfl; have v1 := HVg.out u2 HKu.out; have v2 := HVb.out u2 HKu.out; clear k2))
              clear c3 c6 s1 v1 v2
              obtain ⟨an, han⟩ : ∃ b, b = ansR r := ⟨_, rfl⟩
              have HAe : Hid (an = ansR r) := han
              have HAn : Hid (∀ u, Calls Try.prog 37 #[.agg xa] u fun e w' => e = .returned (.bool an) ∧ Kp (fun _ => False) u w') := fun u => by rw [han, HX.out]; exact answered_ok r u
              clear han
              have kd : Kp (fun _ => False) u2 u2.drew := (Kp.refl _ _).drew
              have HLd : Hid (∀ (S : Nat → Prop) (u : World), Kp S u2 u → ¬ S b1 → ¬ S b3 → (loadVar 55 ⟨b3, 0, none⟩).run Try.prog u = .ok (.agg #[.int .i64 1, .slice pb nb cb]) u ∧ (loadVar 51 ⟨b1, 0, none⟩).run Try.prog u = .ok (.agg xa) u ∧ u.cell? ⟨b1, 3, none⟩ = some (.int .i64 1)) := fun S u ku n1 n3 => by
                have l1 := HLc.out.keep ku n1
                have l3 := HLn.out.keep ku n3
                refine ⟨l3.load dsSt szSt rfl, ?_, by rw [HSy.out]; exact l1.cell (j := 3) rfl⟩
                have := l1.load dsRc szRc rfl
                rw [HX.out]
                exact this
              have HLr2 : Hid (∀ u, Kp (fun _ => False) u2 u → Lv u b2 [.int .i64 0, .slice none 0 0]) := fun u ku => HLr.out.keep ku id
              cases an with
              | true =>
                go_wp2_with fail
                refine dot_region ⟨by kernel_rfl, by kernel_rfl, by kernel_rfl, by kernel_rfl, by kernel_rfl, by kernel_rfl, by kernel_rfl, by kernel_rfl, by kernel_rfl, by kernel_rfl, by kernel_rfl, by kernel_rfl, by kernel_rfl, by kernel_rfl, by kernel_rfl, by kernel_rfl, by kernel_rfl, by kernel_rfl, by kernel_rfl, by kernel_rfl⟩ b1 b3 b2 1 1 1 pb nb cb xa (fun d _ _ _ _ h => by cases d <;> exact h) (by rfl) (by rfl) (by rfl) (by rfl) (by rfl) (HLd.out _ _ kd id id) (fun z => Kp (fun _ => False) u2 z) ((HAn.out _).mono ?_) ?_ ?_
                · rintro e9 w9 ⟨rfl, k9⟩
                  exact ⟨rfl, HLd.out _ _ (kd.trans k9 (fun _ _ e => e)) id id, kd.trans k9 (fun _ _ e => e)⟩
                · intro w9 k9
                  have lr := HLr2.out w9 k9
                  have lr1 := lr.set1 0 (.int .i64 1) (by simp)
                  have lr2 := lr1.set1 1 (.slice pb nb cb) (by simp)
                  have k3 : Kp (fun b => b = b2) u2 ((w9.setCell ⟨b2, 0, none⟩ (.int .i64 1)).setCell ⟨b2, 1, none⟩ (.slice pb nb cb)) := by
                    have kz : Kp (fun b => b = b2) u2 w9 := k9.mono (fun _ _ e => e.elim)
                    have kz1 : Kp (fun b => b = b2) u2 (w9.setCell ⟨b2, 0, none⟩ (.int .i64 1)) := kz.setCell (fun _ => rfl) _
                    exact kz1.setCell (fun _ => rfl) _
                  exact ⟨⟨_, _, lr.cell (j := 0) rfl, lr1.cell (j := 1) rfl, lr.fz (by simp), lr1.fz (by simp)⟩, HLd.out _ _ k3 (by have := HB.out; omega) (by have := HB.out; omega)⟩
                · intro w9 k9
                  have lr := HLr2.out w9 k9
                  have lr2 := (lr.set1 0 (.int .i64 1) (by simp)).set1 1 (.slice pb nb cb) (by simp)
                  have HK3 : Hid (Kp (fun b => b = b2) u2 ((w9.setCell ⟨b2, 0, none⟩ (.int .i64 1)).setCell ⟨b2, 1, none⟩ (.slice pb nb cb))) := by
                    have kz : Kp (fun b => b = b2) u2 w9 := k9.mono (fun _ _ e => e.elim)
                    have kz1 : Kp (fun b => b = b2) u2 (w9.setCell ⟨b2, 0, none⟩ (.int .i64 1)) := kz.setCell (fun _ => rfl) _
                    exact kz1.setCell (fun _ => rfl) _
                  have HL9 : Hid (Lv ((w9.setCell ⟨b2, 0, none⟩ (.int .i64 1)).setCell ⟨b2, 1, none⟩ (.slice pb nb cb)) b2 [.int .i64 1, .slice pb nb cb]) := lr2
                  clear lr lr2 k9 kd
                  simp only [Act.put, List.setIfInBounds_toArray, List.set_cons_succ, List.set_cons_zero]
                  go_wp2_with fail
                  have hld := HL9.out.load dsSt szSt rfl
                  refine bodyPost_ret (res_cell_tmp Try.results39 _ _ b2 _ rfl hld) rfl ?_
                  refine ⟨?_, HKu.out.trans HK3.out (fun b hb e => by have := HB.out; omega)⟩
                  rw [HDo.out, HOk.out, ← HAe.out]; rfl
              | false =>
                go_wp2_with fail
                refine dof_region ⟨by kernel_rfl, by kernel_rfl, by kernel_rfl, by kernel_rfl, by kernel_rfl, by kernel_rfl, by kernel_rfl, by kernel_rfl, by kernel_rfl, by kernel_rfl, by kernel_rfl, by kernel_rfl, by kernel_rfl, by kernel_rfl, by kernel_rfl, by kernel_rfl, by kernel_rfl, by kernel_rfl, by kernel_rfl, by kernel_rfl⟩ b1 b3 b2 1 1 1 pb nb cb xa (fun d _ _ _ _ h => by cases d <;> exact h) (by rfl) (by rfl) (by rfl) (by rfl) (by rfl) (HLd.out _ _ kd id id) (fun z => Kp (fun _ => False) u2 z) ((HAn.out _).mono ?_) ?_ ?_
                · rintro e9 w9 ⟨rfl, k9⟩
                  exact ⟨rfl, HLd.out _ _ (kd.trans k9 (fun _ _ e => e)) id id, kd.trans k9 (fun _ _ e => e)⟩
                · intro w9 k9
                  have lr := HLr2.out w9 k9
                  have lr1 := lr.set1 0 (.int .i64 1) (by simp)
                  have lr2 := lr1.set1 1 (.slice pb nb cb) (by simp)
                  have k3 : Kp (fun b => b = b2) u2 ((w9.setCell ⟨b2, 0, none⟩ (.int .i64 1)).setCell ⟨b2, 1, none⟩ (.slice pb nb cb)) := by
                    have kz : Kp (fun b => b = b2) u2 w9 := k9.mono (fun _ _ e => e.elim)
                    have kz1 : Kp (fun b => b = b2) u2 (w9.setCell ⟨b2, 0, none⟩ (.int .i64 1)) := kz.setCell (fun _ => rfl) _
                    exact kz1.setCell (fun _ => rfl) _
                  exact ⟨⟨_, _, lr.cell (j := 0) rfl, lr1.cell (j := 1) rfl, lr.fz (by simp), lr1.fz (by simp)⟩, HLd.out _ _ k3 (by have := HB.out; omega) (by have := HB.out; omega)⟩
                · intro w9 k9
                  have lr := HLr2.out w9 k9
                  have lr2 := (lr.set1 0 (.int .i64 1) (by simp)).set1 1 (.slice pb nb cb) (by simp)
                  have HK3 : Hid (Kp (fun b => b = b2) u2 ((w9.setCell ⟨b2, 0, none⟩ (.int .i64 1)).setCell ⟨b2, 1, none⟩ (.slice pb nb cb))) := by
                    have kz : Kp (fun b => b = b2) u2 w9 := k9.mono (fun _ _ e => e.elim)
                    have kz1 : Kp (fun b => b = b2) u2 (w9.setCell ⟨b2, 0, none⟩ (.int .i64 1)) := kz.setCell (fun _ => rfl) _
                    exact kz1.setCell (fun _ => rfl) _
                  have HL9 : Hid (Lv ((w9.setCell ⟨b2, 0, none⟩ (.int .i64 1)).setCell ⟨b2, 1, none⟩ (.slice pb nb cb)) b2 [.int .i64 1, .slice pb nb cb]) := lr2
                  clear lr lr2 k9 kd
                  simp only [Act.put, List.setIfInBounds_toArray, List.set_cons_succ, List.set_cons_zero]
                  go_wp2_with fail
                  have hld := HL9.out.load dsSt szSt rfl
                  refine bodyPost_ret (res_cell_tmp Try.results39 _ _ b2 _ rfl hld) rfl ?_
                  refine ⟨?_, HKu.out.trans HK3.out (fun b hb e => by have := HB.out; omega)⟩
                  rw [HDo.out, HOk.out, ← HAe.out]; rfl
            · have hs1' : (sy == 1) = false := by simpa using hs1
              clear hear HEq
              go_upto_region 16 with (first | (refine wpList_load_all rfl 51 _ rfl 7 b1 (rcell r) rfl HLc1.out dsRc szRc rfl ?_; rw [← HX.out]) | (go_at_call 37; refine (HAn0.out _).mono ?_; rintro e9 u2 ⟨rfl, k2⟩; have HKu : Hid (Kp (fun _ => False) w u2) := HKu1.out.trans k2 (fun _ _ e => e); have HLn : Hid (Lv u2 b3 [.int .i64 1, .slice pb nb cb]) := HLn1.out.keep k2 id; have HLc : Hid (Lv u2 b1 (rcell r)) := HLc1.out.keep k2 id; have HLr : Hid (Lv u2 b2 [.int .i64 0, .slice none 0 0]) := HLr1.out.keep k2 id; have c3 : u2.cell? ⟨b1, 3, none⟩ = some (.int .i64 sy) := (by first | (rw [HSy.out]; exact HLc.out.cell (j := 3) rfl)); have c6 : u2.cell? ⟨b1, 6, none⟩ = some (.slice pg ng cg) := (by rw [← HEg.out]; exact HLc.out.cell (j := 6) rfl); have s1 : u2.cell? ⟨b0, 1, none⟩ = some (.slice pb nb cb) := (HLs.out.keep k2 id).cell (j := 1) rfl; have v1 := HVg.out u2 HKu.out; have v2 := HVb.out u2 HKu.out; clear k2))
              clear c3 c6 s1 v1 v2
              obtain ⟨an, han⟩ : ∃ b, b = ansR r := ⟨_, rfl⟩
              have HAe : Hid (an = ansR r) := han
              have HAn : Hid (∀ u, Calls Try.prog 37 #[.agg xa] u fun e w' => e = .returned (.bool an) ∧ Kp (fun _ => False) u w') := fun u => by rw [han, HX.out]; exact answered_ok r u
              clear han
              have kd : Kp (fun _ => False) u2 u2.drew := (Kp.refl _ _).drew
              have HLd : Hid (∀ (S : Nat → Prop) (u : World), Kp S u2 u → ¬ S b1 → ¬ S b3 → (loadVar 55 ⟨b3, 0, none⟩).run Try.prog u = .ok (.agg #[.int .i64 1, .slice pb nb cb]) u ∧ (loadVar 51 ⟨b1, 0, none⟩).run Try.prog u = .ok (.agg xa) u ∧ u.cell? ⟨b1, 3, none⟩ = some (.int .i64 sy)) := fun S u ku n1 n3 => by
                have l1 := HLc.out.keep ku n1
                have l3 := HLn.out.keep ku n3
                refine ⟨l3.load dsSt szSt rfl, ?_, by rw [HSy.out]; exact l1.cell (j := 3) rfl⟩
                have := l1.load dsRc szRc rfl
                rw [HX.out]
                exact this
              have HLr2 : Hid (∀ u, Kp (fun _ => False) u2 u → Lv u b2 [.int .i64 0, .slice none 0 0]) := fun u ku => HLr.out.keep ku id
              cases an with
              | true =>
                go_wp2_with fail
                refine dot_region ⟨by kernel_rfl, by kernel_rfl, by kernel_rfl, by kernel_rfl, by kernel_rfl, by kernel_rfl, by kernel_rfl, by kernel_rfl, by kernel_rfl, by kernel_rfl, by kernel_rfl, by kernel_rfl, by kernel_rfl, by kernel_rfl, by kernel_rfl, by kernel_rfl, by kernel_rfl, by kernel_rfl, by kernel_rfl, by kernel_rfl⟩ b1 b3 b2 1 1 sy pb nb cb xa (fun d _ _ _ _ h => by cases d <;> exact h) (by rfl) (by rfl) (by rfl) (by rfl) (by rfl) (HLd.out _ _ kd id id) (fun z => Kp (fun _ => False) u2 z) ((HAn.out _).mono ?_) ?_ ?_
                · rintro e9 w9 ⟨rfl, k9⟩
                  exact ⟨rfl, HLd.out _ _ (kd.trans k9 (fun _ _ e => e)) id id, kd.trans k9 (fun _ _ e => e)⟩
                · intro w9 k9
                  have lr := HLr2.out w9 k9
                  have lr1 := lr.set1 0 (.int .i64 1) (by simp)
                  have lr2 := lr1.set1 1 (.slice pb nb cb) (by simp)
                  have k3 : Kp (fun b => b = b2) u2 ((w9.setCell ⟨b2, 0, none⟩ (.int .i64 1)).setCell ⟨b2, 1, none⟩ (.slice pb nb cb)) := by
                    have kz : Kp (fun b => b = b2) u2 w9 := k9.mono (fun _ _ e => e.elim)
                    have kz1 : Kp (fun b => b = b2) u2 (w9.setCell ⟨b2, 0, none⟩ (.int .i64 1)) := kz.setCell (fun _ => rfl) _
                    exact kz1.setCell (fun _ => rfl) _
                  exact ⟨⟨_, _, lr.cell (j := 0) rfl, lr1.cell (j := 1) rfl, lr.fz (by simp), lr1.fz (by simp)⟩, HLd.out _ _ k3 (by have := HB.out; omega) (by have := HB.out; omega)⟩
                · intro w9 k9
                  have lr := HLr2.out w9 k9
                  have lr2 := (lr.set1 0 (.int .i64 1) (by simp)).set1 1 (.slice pb nb cb) (by simp)
                  have HK3 : Hid (Kp (fun b => b = b2) u2 ((w9.setCell ⟨b2, 0, none⟩ (.int .i64 1)).setCell ⟨b2, 1, none⟩ (.slice pb nb cb))) := by
                    have kz : Kp (fun b => b = b2) u2 w9 := k9.mono (fun _ _ e => e.elim)
                    have kz1 : Kp (fun b => b = b2) u2 (w9.setCell ⟨b2, 0, none⟩ (.int .i64 1)) := kz.setCell (fun _ => rfl) _
                    exact kz1.setCell (fun _ => rfl) _
                  have HL9 : Hid (Lv ((w9.setCell ⟨b2, 0, none⟩ (.int .i64 1)).setCell ⟨b2, 1, none⟩ (.slice pb nb cb)) b2 [.int .i64 1, .slice pb nb cb]) := lr2
                  clear lr lr2 k9 kd
                  simp only [Act.put, List.setIfInBounds_toArray, List.set_cons_succ, List.set_cons_zero]
                  go_wp2_with fail
                  have hld := HL9.out.load dsSt szSt rfl
                  refine bodyPost_ret (res_cell_tmp Try.results39 _ _ b2 _ rfl hld) rfl ?_
                  refine ⟨?_, HKu.out.trans HK3.out (fun b hb e => by have := HB.out; omega)⟩
                  rw [HDo.out, HOk.out, ← HAe.out]; rfl
              | false =>
                go_wp2_with fail
                refine dof_region ⟨by kernel_rfl, by kernel_rfl, by kernel_rfl, by kernel_rfl, by kernel_rfl, by kernel_rfl, by kernel_rfl, by kernel_rfl, by kernel_rfl, by kernel_rfl, by kernel_rfl, by kernel_rfl, by kernel_rfl, by kernel_rfl, by kernel_rfl, by kernel_rfl, by kernel_rfl, by kernel_rfl, by kernel_rfl, by kernel_rfl⟩ b1 b3 b2 1 1 sy pb nb cb xa (fun d _ _ _ _ h => by cases d <;> exact h) (by rfl) (by rfl) (by rfl) (by rfl) (by rfl) (HLd.out _ _ kd id id) (fun z => Kp (fun _ => False) u2 z) ((HAn.out _).mono ?_) ?_ ?_
                · rintro e9 w9 ⟨rfl, k9⟩
                  exact ⟨rfl, HLd.out _ _ (kd.trans k9 (fun _ _ e => e)) id id, kd.trans k9 (fun _ _ e => e)⟩
                · intro w9 k9
                  have lr := HLr2.out w9 k9
                  have lr1 := lr.set1 0 (.int .i64 1) (by simp)
                  have lr2 := lr1.set1 1 (.slice pb nb cb) (by simp)
                  have k3 : Kp (fun b => b = b2) u2 ((w9.setCell ⟨b2, 0, none⟩ (.int .i64 1)).setCell ⟨b2, 1, none⟩ (.slice pb nb cb)) := by
                    have kz : Kp (fun b => b = b2) u2 w9 := k9.mono (fun _ _ e => e.elim)
                    have kz1 : Kp (fun b => b = b2) u2 (w9.setCell ⟨b2, 0, none⟩ (.int .i64 1)) := kz.setCell (fun _ => rfl) _
                    exact kz1.setCell (fun _ => rfl) _
                  exact ⟨⟨_, _, lr.cell (j := 0) rfl, lr1.cell (j := 1) rfl, lr.fz (by simp), lr1.fz (by simp)⟩, HLd.out _ _ k3 (by have := HB.out; omega) (by have := HB.out; omega)⟩
                · intro w9 k9
                  have lr := HLr2.out w9 k9
                  have lr2 := (lr.set1 0 (.int .i64 1) (by simp)).set1 1 (.slice pb nb cb) (by simp)
                  have HK3 : Hid (Kp (fun b => b = b2) u2 ((w9.setCell ⟨b2, 0, none⟩ (.int .i64 1)).setCell ⟨b2, 1, none⟩ (.slice pb nb cb))) := by
                    have kz : Kp (fun b => b = b2) u2 w9 := k9.mono (fun _ _ e => e.elim)
                    have kz1 : Kp (fun b => b = b2) u2 (w9.setCell ⟨b2, 0, none⟩ (.int .i64 1)) := kz.setCell (fun _ => rfl) _
                    exact kz1.setCell (fun _ => rfl) _
                  have HL9 : Hid (Lv ((w9.setCell ⟨b2, 0, none⟩ (.int .i64 1)).setCell ⟨b2, 1, none⟩ (.slice pb nb cb)) b2 [.int .i64 1, .slice pb nb cb]) := lr2
                  clear lr lr2 k9 kd
                  simp only [Act.put, List.setIfInBounds_toArray, List.set_cons_succ, List.set_cons_zero]
                  go_wp2_with fail
                  have hld := HL9.out.load dsSt szSt rfl
                  refine bodyPost_ret (res_cell_tmp Try.results39 _ _ b2 _ rfl hld) rfl ?_
                  refine ⟨?_, HKu.out.trans HK3.out (fun b hb e => by have := HB.out; omega)⟩
                  rw [HDo.out, HOk.out, ← HAe.out]; rfl
      · have n1' : (n == 1) = false := by simpa using n1
        have n1n : (n != 1) = true := by simpa using n1
        have HDo : Hid (doR n ⟨.slice pb nb cb, bxs⟩ r = (n, ⟨.slice pb nb cb, bxs⟩, 3)) := by show _ = _; unfold doR; rw [hk1, hk2, n1']; rfl
        have HOk : Hid (okR n ⟨.slice pb nb cb, bxs⟩ r = (!ansR r || sy == 3)) := by show _ = _; unfold okR; rw [hk2, n1', HDo.out, HSy.out]; rfl
        clear hk1 hk2
        go_upto_region 16 with fail
        have HLc := HLc1
        have HLr := HLr1
        have HLn := HLn1
        have HKu := HKu1
        obtain ⟨an, han⟩ : ∃ b, b = ansR r := ⟨_, rfl⟩
        have HAe : Hid (an = ansR r) := han
        have HAn : Hid (∀ u, Calls Try.prog 37 #[.agg xa] u fun e w' => e = .returned (.bool an) ∧ Kp (fun _ => False) u w') := fun u => by rw [han, HX.out]; exact answered_ok r u
        clear han
        have kd : Kp (fun _ => False) u1 u1.drew := (Kp.refl _ _).drew
        have HLd : Hid (∀ (S : Nat → Prop) (u : World), Kp S u1 u → ¬ S b1 → ¬ S b3 → (loadVar 55 ⟨b3, 0, none⟩).run Try.prog u = .ok (.agg #[.int .i64 n, .slice pb nb cb]) u ∧ (loadVar 51 ⟨b1, 0, none⟩).run Try.prog u = .ok (.agg xa) u ∧ u.cell? ⟨b1, 3, none⟩ = some (.int .i64 sy)) := fun S u ku n1 n3 => by
          have l1 := HLc.out.keep ku n1
          have l3 := HLn.out.keep ku n3
          refine ⟨l3.load dsSt szSt rfl, ?_, by rw [HSy.out]; exact l1.cell (j := 3) rfl⟩
          have := l1.load dsRc szRc rfl
          rw [HX.out]
          exact this
        have HLr2 : Hid (∀ u, Kp (fun _ => False) u1 u → Lv u b2 [.int .i64 0, .slice none 0 0]) := fun u ku => HLr.out.keep ku id
        cases an with
        | true =>
          go_wp2_with fail
          refine dot_region ⟨by kernel_rfl, by kernel_rfl, by kernel_rfl, by kernel_rfl, by kernel_rfl, by kernel_rfl, by kernel_rfl, by kernel_rfl, by kernel_rfl, by kernel_rfl, by kernel_rfl, by kernel_rfl, by kernel_rfl, by kernel_rfl, by kernel_rfl, by kernel_rfl, by kernel_rfl, by kernel_rfl, by kernel_rfl, by kernel_rfl⟩ b1 b3 b2 n 3 sy pb nb cb xa (fun d _ _ _ _ h => by cases d <;> exact h) (by rfl) (by rfl) (by rfl) (by rfl) (by rfl) (HLd.out _ _ kd id id) (fun z => Kp (fun _ => False) u1 z) ((HAn.out _).mono ?_) ?_ ?_
          · rintro e9 w9 ⟨rfl, k9⟩
            exact ⟨rfl, HLd.out _ _ (kd.trans k9 (fun _ _ e => e)) id id, kd.trans k9 (fun _ _ e => e)⟩
          · intro w9 k9
            have lr := HLr2.out w9 k9
            have lr1 := lr.set1 0 (.int .i64 n) (by simp)
            have lr2 := lr1.set1 1 (.slice pb nb cb) (by simp)
            have k3 : Kp (fun b => b = b2) u1 ((w9.setCell ⟨b2, 0, none⟩ (.int .i64 n)).setCell ⟨b2, 1, none⟩ (.slice pb nb cb)) := by
              have kz : Kp (fun b => b = b2) u1 w9 := k9.mono (fun _ _ e => e.elim)
              have kz1 : Kp (fun b => b = b2) u1 (w9.setCell ⟨b2, 0, none⟩ (.int .i64 n)) := kz.setCell (fun _ => rfl) _
              exact kz1.setCell (fun _ => rfl) _
            exact ⟨⟨_, _, lr.cell (j := 0) rfl, lr1.cell (j := 1) rfl, lr.fz (by simp), lr1.fz (by simp)⟩, HLd.out _ _ k3 (by have := HB.out; omega) (by have := HB.out; omega)⟩
          · intro w9 k9
            have lr := HLr2.out w9 k9
            have lr2 := (lr.set1 0 (.int .i64 n) (by simp)).set1 1 (.slice pb nb cb) (by simp)
            have HK3 : Hid (Kp (fun b => b = b2) u1 ((w9.setCell ⟨b2, 0, none⟩ (.int .i64 n)).setCell ⟨b2, 1, none⟩ (.slice pb nb cb))) := by
              have kz : Kp (fun b => b = b2) u1 w9 := k9.mono (fun _ _ e => e.elim)
              have kz1 : Kp (fun b => b = b2) u1 (w9.setCell ⟨b2, 0, none⟩ (.int .i64 n)) := kz.setCell (fun _ => rfl) _
              exact kz1.setCell (fun _ => rfl) _
            have HL9 : Hid (Lv ((w9.setCell ⟨b2, 0, none⟩ (.int .i64 n)).setCell ⟨b2, 1, none⟩ (.slice pb nb cb)) b2 [.int .i64 n, .slice pb nb cb]) := lr2
            clear lr lr2 k9 kd
            simp only [Act.put, List.setIfInBounds_toArray, List.set_cons_succ, List.set_cons_zero]
            go_wp2_with fail
            have hld := HL9.out.load dsSt szSt rfl
            refine bodyPost_ret (res_cell_tmp Try.results39 _ _ b2 _ rfl hld) rfl ?_
            refine ⟨?_, HKu.out.trans HK3.out (fun b hb e => by have := HB.out; omega)⟩
            rw [HDo.out, HOk.out, ← HAe.out]; rfl
        | false =>
          go_wp2_with fail
          refine dof_region ⟨by kernel_rfl, by kernel_rfl, by kernel_rfl, by kernel_rfl, by kernel_rfl, by kernel_rfl, by kernel_rfl, by kernel_rfl, by kernel_rfl, by kernel_rfl, by kernel_rfl, by kernel_rfl, by kernel_rfl, by kernel_rfl, by kernel_rfl, by kernel_rfl, by kernel_rfl, by kernel_rfl, by kernel_rfl, by kernel_rfl⟩ b1 b3 b2 n 3 sy pb nb cb xa (fun d _ _ _ _ h => by cases d <;> exact h) (by rfl) (by rfl) (by rfl) (by rfl) (by rfl) (HLd.out _ _ kd id id) (fun z => Kp (fun _ => False) u1 z) ((HAn.out _).mono ?_) ?_ ?_
          · rintro e9 w9 ⟨rfl, k9⟩
            exact ⟨rfl, HLd.out _ _ (kd.trans k9 (fun _ _ e => e)) id id, kd.trans k9 (fun _ _ e => e)⟩
          · intro w9 k9
            have lr := HLr2.out w9 k9
            have lr1 := lr.set1 0 (.int .i64 n) (by simp)
            have lr2 := lr1.set1 1 (.slice pb nb cb) (by simp)
            have k3 : Kp (fun b => b = b2) u1 ((w9.setCell ⟨b2, 0, none⟩ (.int .i64 n)).setCell ⟨b2, 1, none⟩ (.slice pb nb cb)) := by
              have kz : Kp (fun b => b = b2) u1 w9 := k9.mono (fun _ _ e => e.elim)
              have kz1 : Kp (fun b => b = b2) u1 (w9.setCell ⟨b2, 0, none⟩ (.int .i64 n)) := kz.setCell (fun _ => rfl) _
              exact kz1.setCell (fun _ => rfl) _
            exact ⟨⟨_, _, lr.cell (j := 0) rfl, lr1.cell (j := 1) rfl, lr.fz (by simp), lr1.fz (by simp)⟩, HLd.out _ _ k3 (by have := HB.out; omega) (by have := HB.out; omega)⟩
          · intro w9 k9
            have lr := HLr2.out w9 k9
            have lr2 := (lr.set1 0 (.int .i64 n) (by simp)).set1 1 (.slice pb nb cb) (by simp)
            have HK3 : Hid (Kp (fun b => b = b2) u1 ((w9.setCell ⟨b2, 0, none⟩ (.int .i64 n)).setCell ⟨b2, 1, none⟩ (.slice pb nb cb))) := by
              have kz : Kp (fun b => b = b2) u1 w9 := k9.mono (fun _ _ e => e.elim)
              have kz1 : Kp (fun b => b = b2) u1 (w9.setCell ⟨b2, 0, none⟩ (.int .i64 n)) := kz.setCell (fun _ => rfl) _
              exact kz1.setCell (fun _ => rfl) _
            have HL9 : Hid (Lv ((w9.setCell ⟨b2, 0, none⟩ (.int .i64 n)).setCell ⟨b2, 1, none⟩ (.slice pb nb cb)) b2 [.int .i64 n, .slice pb nb cb]) := lr2
            clear lr lr2 k9 kd
            simp only [Act.put, List.setIfInBounds_toArray, List.set_cons_succ, List.set_cons_zero]
            go_wp2_with fail
            have hld := HL9.out.load dsSt szSt rfl
            refine bodyPost_ret (res_cell_tmp Try.results39 _ _ b2 _ rfl hld) rfl ?_
            refine ⟨?_, HKu.out.trans HK3.out (fun b hb e => by have := HB.out; omega)⟩
            rw [HDo.out, HOk.out, ← HAe.out]; rfl
    · have k2' : (kd == 2) = false := by simpa using k2
      have hk2 : (r.kind == 2) = false := by rw [← HKd.out]; exact k2'
      by_cases n1 : n = 1
      · subst n1
        have HDo : Hid (doR 1 ⟨.slice pb nb cb, bxs⟩ r = (2, by0, 1)) := by show _ = _; unfold doR; rw [hk1, hk2]; rfl
        have HOk : Hid (okR 1 ⟨.slice pb nb cb, bxs⟩ r = (!ansR r || sy == 1)) := by show _ = _; unfold okR; rw [hk2, HDo.out, HSy.out]; rfl
        clear hk1 hk2
        go_upto_region 16 with (refine wpList_store_all rfl 55 _ _ rfl 2 b3 [.int .i64 1, .slice pb nb cb] [.int .i64 2, .slice none 0 0] rfl rfl HLn1.out szSt rfl rfl (all_oneCell_toArray (fun x hx => by simp only [List.mem_cons, List.not_mem_nil, or_false] at hx; rcases hx with rfl | rfl <;> rfl)) ?_; intro u2 hl2 k2; have HLn : Hid (Lv u2 b3 [.int .i64 2, .slice none 0 0]) := hl2; have HLc : Hid (Lv u2 b1 (rcell r)) := HLc1.out.keep k2 (by have := HB.out; omega); have HLr : Hid (Lv u2 b2 [.int .i64 0, .slice none 0 0]) := HLr1.out.keep k2 (by have := HB.out; omega); have HKu : Hid (Kp (fun _ => False) w u2) := HKu1.out.trans k2 (fun b hb e => by have := HB.out; omega); clear hl2 k2)
        obtain ⟨an, han⟩ : ∃ b, b = ansR r := ⟨_, rfl⟩
        have HAe : Hid (an = ansR r) := han
        have HAn : Hid (∀ u, Calls Try.prog 37 #[.agg xa] u fun e w' => e = .returned (.bool an) ∧ Kp (fun _ => False) u w') := fun u => by rw [han, HX.out]; exact answered_ok r u
        clear han
        have kd : Kp (fun _ => False) u2 u2.drew := (Kp.refl _ _).drew
        have HLd : Hid (∀ (S : Nat → Prop) (u : World), Kp S u2 u → ¬ S b1 → ¬ S b3 → (loadVar 55 ⟨b3, 0, none⟩).run Try.prog u = .ok (.agg #[.int .i64 2, .slice none 0 0]) u ∧ (loadVar 51 ⟨b1, 0, none⟩).run Try.prog u = .ok (.agg xa) u ∧ u.cell? ⟨b1, 3, none⟩ = some (.int .i64 sy)) := fun S u ku n1 n3 => by
          have l1 := HLc.out.keep ku n1
          have l3 := HLn.out.keep ku n3
          refine ⟨l3.load dsSt szSt rfl, ?_, by rw [HSy.out]; exact l1.cell (j := 3) rfl⟩
          have := l1.load dsRc szRc rfl
          rw [HX.out]
          exact this
        have HLr2 : Hid (∀ u, Kp (fun _ => False) u2 u → Lv u b2 [.int .i64 0, .slice none 0 0]) := fun u ku => HLr.out.keep ku id
        cases an with
        | true =>
          go_wp2_with fail
          refine dot_region ⟨by kernel_rfl, by kernel_rfl, by kernel_rfl, by kernel_rfl, by kernel_rfl, by kernel_rfl, by kernel_rfl, by kernel_rfl, by kernel_rfl, by kernel_rfl, by kernel_rfl, by kernel_rfl, by kernel_rfl, by kernel_rfl, by kernel_rfl, by kernel_rfl, by kernel_rfl, by kernel_rfl, by kernel_rfl, by kernel_rfl⟩ b1 b3 b2 2 1 sy none 0 0 xa (fun d _ _ _ _ h => by cases d <;> exact h) (by rfl) (by rfl) (by rfl) (by rfl) (by rfl) (HLd.out _ _ kd id id) (fun z => Kp (fun _ => False) u2 z) ((HAn.out _).mono ?_) ?_ ?_
          · rintro e9 w9 ⟨rfl, k9⟩
            exact ⟨rfl, HLd.out _ _ (kd.trans k9 (fun _ _ e => e)) id id, kd.trans k9 (fun _ _ e => e)⟩
          · intro w9 k9
            have lr := HLr2.out w9 k9
            have lr1 := lr.set1 0 (.int .i64 2) (by simp)
            have lr2 := lr1.set1 1 (.slice none 0 0) (by simp)
            have k3 : Kp (fun b => b = b2) u2 ((w9.setCell ⟨b2, 0, none⟩ (.int .i64 2)).setCell ⟨b2, 1, none⟩ (.slice none 0 0)) := by
              have kz : Kp (fun b => b = b2) u2 w9 := k9.mono (fun _ _ e => e.elim)
              have kz1 : Kp (fun b => b = b2) u2 (w9.setCell ⟨b2, 0, none⟩ (.int .i64 2)) := kz.setCell (fun _ => rfl) _
              exact kz1.setCell (fun _ => rfl) _
            exact ⟨⟨_, _, lr.cell (j := 0) rfl, lr1.cell (j := 1) rfl, lr.fz (by simp), lr1.fz (by simp)⟩, HLd.out _ _ k3 (by have := HB.out; omega) (by have := HB.out; omega)⟩
          · intro w9 k9
            have lr := HLr2.out w9 k9
            have lr2 := (lr.set1 0 (.int .i64 2) (by simp)).set1 1 (.slice none 0 0) (by simp)
            have HK3 : Hid (Kp (fun b => b = b2) u2 ((w9.setCell ⟨b2, 0, none⟩ (.int .i64 2)).setCell ⟨b2, 1, none⟩ (.slice none 0 0))) := by
              have kz : Kp (fun b => b = b2) u2 w9 := k9.mono (fun _ _ e => e.elim)
              have kz1 : Kp (fun b => b = b2) u2 (w9.setCell ⟨b2, 0, none⟩ (.int .i64 2)) := kz.setCell (fun _ => rfl) _
              exact kz1.setCell (fun _ => rfl) _
            have HL9 : Hid (Lv ((w9.setCell ⟨b2, 0, none⟩ (.int .i64 2)).setCell ⟨b2, 1, none⟩ (.slice none 0 0)) b2 [.int .i64 2, .slice none 0 0]) := lr2
            clear lr lr2 k9 kd
            simp only [Act.put, List.setIfInBounds_toArray, List.set_cons_succ, List.set_cons_zero]
            go_wp2_with fail
            have hld := HL9.out.load dsSt szSt rfl
            refine bodyPost_ret (res_cell_tmp Try.results39 _ _ b2 _ rfl hld) rfl ?_
            refine ⟨?_, HKu.out.trans HK3.out (fun b hb e => by have := HB.out; omega)⟩
            rw [HDo.out, HOk.out, ← HAe.out]; rfl
        | false =>
          go_wp2_with fail
          refine dof_region ⟨by kernel_rfl, by kernel_rfl, by kernel_rfl, by kernel_rfl, by kernel_rfl, by kernel_rfl, by kernel_rfl, by kernel_rfl, by kernel_rfl, by kernel_rfl, by kernel_rfl, by kernel_rfl, by kernel_rfl, by kernel_rfl, by kernel_rfl, by kernel_rfl, by kernel_rfl, by kernel_rfl, by kernel_rfl, by kernel_rfl⟩ b1 b3 b2 2 1 sy none 0 0 xa (fun d _ _ _ _ h => by cases d <;> exact h) (by rfl) (by rfl) (by rfl) (by rfl) (by rfl) (HLd.out _ _ kd id id) (fun z => Kp (fun _ => False) u2 z) ((HAn.out _).mono ?_) ?_ ?_
          · rintro e9 w9 ⟨rfl, k9⟩
            exact ⟨rfl, HLd.out _ _ (kd.trans k9 (fun _ _ e => e)) id id, kd.trans k9 (fun _ _ e => e)⟩
          · intro w9 k9
            have lr := HLr2.out w9 k9
            have lr1 := lr.set1 0 (.int .i64 2) (by simp)
            have lr2 := lr1.set1 1 (.slice none 0 0) (by simp)
            have k3 : Kp (fun b => b = b2) u2 ((w9.setCell ⟨b2, 0, none⟩ (.int .i64 2)).setCell ⟨b2, 1, none⟩ (.slice none 0 0)) := by
              have kz : Kp (fun b => b = b2) u2 w9 := k9.mono (fun _ _ e => e.elim)
              have kz1 : Kp (fun b => b = b2) u2 (w9.setCell ⟨b2, 0, none⟩ (.int .i64 2)) := kz.setCell (fun _ => rfl) _
              exact kz1.setCell (fun _ => rfl) _
            exact ⟨⟨_, _, lr.cell (j := 0) rfl, lr1.cell (j := 1) rfl, lr.fz (by simp), lr1.fz (by simp)⟩, HLd.out _ _ k3 (by have := HB.out; omega) (by have := HB.out; omega)⟩
          · intro w9 k9
            have lr := HLr2.out w9 k9
            have lr2 := (lr.set1 0 (.int .i64 2) (by simp)).set1 1 (.slice none 0 0) (by simp)
            have HK3 : Hid (Kp (fun b => b = b2) u2 ((w9.setCell ⟨b2, 0, none⟩ (.int .i64 2)).setCell ⟨b2, 1, none⟩ (.slice none 0 0))) := by
              have kz : Kp (fun b => b = b2) u2 w9 := k9.mono (fun _ _ e => e.elim)
              have kz1 : Kp (fun b => b = b2) u2 (w9.setCell ⟨b2, 0, none⟩ (.int .i64 2)) := kz.setCell (fun _ => rfl) _
              exact kz1.setCell (fun _ => rfl) _
            have HL9 : Hid (Lv ((w9.setCell ⟨b2, 0, none⟩ (.int .i64 2)).setCell ⟨b2, 1, none⟩ (.slice none 0 0)) b2 [.int .i64 2, .slice none 0 0]) := lr2
            clear lr lr2 k9 kd
            simp only [Act.put, List.setIfInBounds_toArray, List.set_cons_succ, List.set_cons_zero]
            go_wp2_with fail
            have hld := HL9.out.load dsSt szSt rfl
            refine bodyPost_ret (res_cell_tmp Try.results39 _ _ b2 _ rfl hld) rfl ?_
            refine ⟨?_, HKu.out.trans HK3.out (fun b hb e => by have := HB.out; omega)⟩
            rw [HDo.out, HOk.out, ← HAe.out]; rfl
      · have n1' : (n == 1) = false := by simpa using n1
        have HDo : Hid (doR n ⟨.slice pb nb cb, bxs⟩ r = (n, ⟨.slice pb nb cb, bxs⟩, 3)) := by show _ = _; unfold doR; rw [hk1, hk2, n1']; rfl
        have HOk : Hid (okR n ⟨.slice pb nb cb, bxs⟩ r = (!ansR r || sy == 3)) := by show _ = _; unfold okR; rw [hk2, n1', HDo.out, HSy.out]; rfl
        clear hk1 hk2
        go_upto_region 16 with fail
        have HLc := HLc1
        have HLr := HLr1
        have HLn := HLn1
        have HKu := HKu1
        obtain ⟨an, han⟩ : ∃ b, b = ansR r := ⟨_, rfl⟩
        have HAe : Hid (an = ansR r) := han
        have HAn : Hid (∀ u, Calls Try.prog 37 #[.agg xa] u fun e w' => e = .returned (.bool an) ∧ Kp (fun _ => False) u w') := fun u => by rw [han, HX.out]; exact answered_ok r u
        clear han
        have kd : Kp (fun _ => False) u1 u1.drew := (Kp.refl _ _).drew
        have HLd : Hid (∀ (S : Nat → Prop) (u : World), Kp S u1 u → ¬ S b1 → ¬ S b3 → (loadVar 55 ⟨b3, 0, none⟩).run Try.prog u = .ok (.agg #[.int .i64 n, .slice pb nb cb]) u ∧ (loadVar 51 ⟨b1, 0, none⟩).run Try.prog u = .ok (.agg xa) u ∧ u.cell? ⟨b1, 3, none⟩ = some (.int .i64 sy)) := fun S u ku n1 n3 => by
          have l1 := HLc.out.keep ku n1
          have l3 := HLn.out.keep ku n3
          refine ⟨l3.load dsSt szSt rfl, ?_, by rw [HSy.out]; exact l1.cell (j := 3) rfl⟩
          have := l1.load dsRc szRc rfl
          rw [HX.out]
          exact this
        have HLr2 : Hid (∀ u, Kp (fun _ => False) u1 u → Lv u b2 [.int .i64 0, .slice none 0 0]) := fun u ku => HLr.out.keep ku id
        cases an with
        | true =>
          go_wp2_with fail
          refine dot_region ⟨by kernel_rfl, by kernel_rfl, by kernel_rfl, by kernel_rfl, by kernel_rfl, by kernel_rfl, by kernel_rfl, by kernel_rfl, by kernel_rfl, by kernel_rfl, by kernel_rfl, by kernel_rfl, by kernel_rfl, by kernel_rfl, by kernel_rfl, by kernel_rfl, by kernel_rfl, by kernel_rfl, by kernel_rfl, by kernel_rfl⟩ b1 b3 b2 n 3 sy pb nb cb xa (fun d _ _ _ _ h => by cases d <;> exact h) (by rfl) (by rfl) (by rfl) (by rfl) (by rfl) (HLd.out _ _ kd id id) (fun z => Kp (fun _ => False) u1 z) ((HAn.out _).mono ?_) ?_ ?_
          · rintro e9 w9 ⟨rfl, k9⟩
            exact ⟨rfl, HLd.out _ _ (kd.trans k9 (fun _ _ e => e)) id id, kd.trans k9 (fun _ _ e => e)⟩
          · intro w9 k9
            have lr := HLr2.out w9 k9
            have lr1 := lr.set1 0 (.int .i64 n) (by simp)
            have lr2 := lr1.set1 1 (.slice pb nb cb) (by simp)
            have k3 : Kp (fun b => b = b2) u1 ((w9.setCell ⟨b2, 0, none⟩ (.int .i64 n)).setCell ⟨b2, 1, none⟩ (.slice pb nb cb)) := by
              have kz : Kp (fun b => b = b2) u1 w9 := k9.mono (fun _ _ e => e.elim)
              have kz1 : Kp (fun b => b = b2) u1 (w9.setCell ⟨b2, 0, none⟩ (.int .i64 n)) := kz.setCell (fun _ => rfl) _
              exact kz1.setCell (fun _ => rfl) _
            exact ⟨⟨_, _, lr.cell (j := 0) rfl, lr1.cell (j := 1) rfl, lr.fz (by simp), lr1.fz (by simp)⟩, HLd.out _ _ k3 (by have := HB.out; omega) (by have := HB.out; omega)⟩
          · intro w9 k9
            have lr := HLr2.out w9 k9
            have lr2 := (lr.set1 0 (.int .i64 n) (by simp)).set1 1 (.slice pb nb cb) (by simp)
            have HK3 : Hid (Kp (fun b => b = b2) u1 ((w9.setCell ⟨b2, 0, none⟩ (.int .i64 n)).setCell ⟨b2, 1, none⟩ (.slice pb nb cb))) := by
              have kz : Kp (fun b => b = b2) u1 w9 := k9.mono (fun _ _ e => e.elim)
              have kz1 : Kp (fun b => b = b2) u1 (w9.setCell ⟨b2, 0, none⟩ (.int .i64 n)) := kz.setCell (fun _ => rfl) _
              exact kz1.setCell (fun _ => rfl) _
            have HL9 : Hid (Lv ((w9.setCell ⟨b2, 0, none⟩ (.int .i64 n)).setCell ⟨b2, 1, none⟩ (.slice pb nb cb)) b2 [.int .i64 n, .slice pb nb cb]) := lr2
            clear lr lr2 k9 kd
            simp only [Act.put, List.setIfInBounds_toArray, List.set_cons_succ, List.set_cons_zero]
            go_wp2_with fail
            have hld := HL9.out.load dsSt szSt rfl
            refine bodyPost_ret (res_cell_tmp Try.results39 _ _ b2 _ rfl hld) rfl ?_
            refine ⟨?_, HKu.out.trans HK3.out (fun b hb e => by have := HB.out; omega)⟩
            rw [HDo.out, HOk.out, ← HAe.out]; rfl
        | false =>
          go_wp2_with fail
          refine dof_region ⟨by kernel_rfl, by kernel_rfl, by kernel_rfl, by kernel_rfl, by kernel_rfl, by kernel_rfl, by kernel_rfl, by kernel_rfl, by kernel_rfl, by kernel_rfl, by kernel_rfl, by kernel_rfl, by kernel_rfl, by kernel_rfl, by kernel_rfl, by kernel_rfl, by kernel_rfl, by kernel_rfl, by kernel_rfl, by kernel_rfl⟩ b1 b3 b2 n 3 sy pb nb cb xa (fun d _ _ _ _ h => by cases d <;> exact h) (by rfl) (by rfl) (by rfl) (by rfl) (by rfl) (HLd.out _ _ kd id id) (fun z => Kp (fun _ => False) u1 z) ((HAn.out _).mono ?_) ?_ ?_
          · rintro e9 w9 ⟨rfl, k9⟩
            exact ⟨rfl, HLd.out _ _ (kd.trans k9 (fun _ _ e => e)) id id, kd.trans k9 (fun _ _ e => e)⟩
          · intro w9 k9
            have lr := HLr2.out w9 k9
            have lr1 := lr.set1 0 (.int .i64 n) (by simp)
            have lr2 := lr1.set1 1 (.slice pb nb cb) (by simp)
            have k3 : Kp (fun b => b = b2) u1 ((w9.setCell ⟨b2, 0, none⟩ (.int .i64 n)).setCell ⟨b2, 1, none⟩ (.slice pb nb cb)) := by
              have kz : Kp (fun b => b = b2) u1 w9 := k9.mono (fun _ _ e => e.elim)
              have kz1 : Kp (fun b => b = b2) u1 (w9.setCell ⟨b2, 0, none⟩ (.int .i64 n)) := kz.setCell (fun _ => rfl) _
              exact kz1.setCell (fun _ => rfl) _
            exact ⟨⟨_, _, lr.cell (j := 0) rfl, lr1.cell (j := 1) rfl, lr.fz (by simp), lr1.fz (by simp)⟩, HLd.out _ _ k3 (by have := HB.out; omega) (by have := HB.out; omega)⟩
          · intro w9 k9
            have lr := HLr2.out w9 k9
            have lr2 := (lr.set1 0 (.int .i64 n) (by simp)).set1 1 (.slice pb nb cb) (by simp)
            have HK3 : Hid (Kp (fun b => b = b2) u1 ((w9.setCell ⟨b2, 0, none⟩ (.int .i64 n)).setCell ⟨b2, 1, none⟩ (.slice pb nb cb))) := by
              have kz : Kp (fun b => b = b2) u1 w9 := k9.mono (fun _ _ e => e.elim)
              have kz1 : Kp (fun b => b = b2) u1 (w9.setCell ⟨b2, 0, none⟩ (.int .i64 n)) := kz.setCell (fun _ => rfl) _
              exact kz1.setCell (fun _ => rfl) _
            have HL9 : Hid (Lv ((w9.setCell ⟨b2, 0, none⟩ (.int .i64 n)).setCell ⟨b2, 1, none⟩ (.slice pb nb cb)) b2 [.int .i64 n, .slice pb nb cb]) := lr2
            clear lr lr2 k9 kd
            simp only [Act.put, List.setIfInBounds_toArray, List.set_cons_succ, List.set_cons_zero]
            go_wp2_with fail
            have hld := HL9.out.load dsSt szSt rfl
            refine bodyPost_ret (res_cell_tmp Try.results39 _ _ b2 _ rfl hld) rfl ?_
            refine ⟨?_, HKu.out.trans HK3.out (fun b hb e => by have := HB.out; omega)⟩
            rw [HDo.out, HOk.out, ← HAe.out]; rfl
end Go.Proofs.Ytbbgplnenbkfeaa
