/- A recoder joins what came (laid by scripts/mkre.py). -/
import Derived.Test.YtmncocmeafcpfaaDoorRa3
namespace Go.Proofs.YtmncocmeafcpfaaDoor
set_option linter.unusedVariables false
set_option linter.unusedSimpArgs false
open Go.RowKit Go.Deep

set_option maxRecDepth 100000 in
set_option maxHeartbeats 3200000 in
theorem join_bad {w : World} {base r f g q oq cq n : Nat} {sm : Int} {p5 : Option Addr} {c5 : Nat} (ps : Option Addr) (cs : Nat) (xs : List Nat) (h : Rco w base r f g q oq cq n sm 1 (.slice ps 8 cs) p5 c5) (hx : Rb w ps 8 xs) (h1 : 1 ≤ n) (h8 : n ≤ 8) (hp : Mf.Pows w) (ht : Turns w) (HB : Hid ((((Crc.sum (xs.take n) : Nat) : Int) != sm) = true)) :
    Calls Tryd.prog 98 #[.pointer (some ⟨r, 0, none⟩)] w fun e w' => e = .returned (.tuple #[]) ∧ Kp (fun b => b = f ∨ b = g) w w' ∧ Rco w' base r f g q oq cq n sm 0 (.slice none 0 0) p5 c5 := by
  have HRC : Hid (Rco w base r f g q oq cq n sm 1 (.slice ps 8 cs) p5 c5) := h
  have HX : Hid (Rb w ps 8 xs ∧ 1 ≤ n ∧ n ≤ 8 ∧ Mf.Pows w ∧ Turns w) := ⟨hx, h1, h8, hp, ht⟩
  have HBl : Hid (∀ u, Kp (fun _ => False) w u → Calls _ _ _ u _) := fun u k => blob2 (h.fe.keep0 k)
  have HO : Hid ((blobA (bF n sm) (.slice (some ⟨q, oq, none⟩) 2 cq)).toList.toArray.all (·.oneCell') = true) := blob_one _ rfl
  have c7 := h.lr.cell (j := 7) rfl
  obtain ⟨ba, hba⟩ : ∃ ba : Array Value, ba = blobA (bF n sm) (.slice (some ⟨q, oq, none⟩) 2 cq) := ⟨_, rfl⟩
  have HBA : Hid (ba = blobA (bF n sm) (.slice (some ⟨q, oq, none⟩) 2 cq)) := hba
  rw [← hba] at HBl HO
  clear h hx h1 h8 hp ht hba
  go_enter Tryd.func98, Tryd.ntmps98
  go_wp2_with (first
    | (go_at_call 94; refine (HBl.out _ (Kp.refl _ _)).mono ?_; rintro e w1 ⟨rfl, k1⟩)
    | (refine wpList_store_all rfl 33 _ _ rfl 6 w1.heap.size zeroB.toList ba.toList rfl (by rw [Array.toArray_toList]; rfl) (by exact Lv.new w1 _ _) szBlob rfl (by rw [HBA.out]; rfl) HO.out ?_; intro z0 hl0 k2; have HZ0 : Hid (Kp (fun _ => False) w z0 ∧ Lv z0 w1.heap.size ba.toList) := ⟨k1.trans (((Kp.refl (fun _ => False) w1).alloc _).trans k2 (fun b hb e => by omega)) (fun _ _ e => e), hl0⟩; clear hl0 k2))
  obtain ⟨bx, hbx⟩ : ∃ bx, bx = w1.heap.size := ⟨_, rfl⟩
  rw [← hbx] at HZ0 ⊢
  clear hbx k1 c7 HBl HO
  have kd : Kp (fun _ => False) z0 z0.drew := (Kp.refl _ _).drew
  have dsC : ∃ d, Tryd.prog.underlying 26 = some d ∧ d.isRow = true := ⟨_, Tryd.underlying26, rfl⟩
  have szC : (Tryd.prog.info? 26).map (·.size) = some 2 := by kernel_rfl
  have HS1 : Hid (∀ z, Kp (fun _ => False) z0 z → ((loadVar 26 ⟨bx, 3, none⟩).run Tryd.prog z = .ok (.agg #[.int .i64 1, .int .i64 1]) z ∧ z.cell? ⟨bx, 1, none⟩ = some (.int .i64 (n : Int)) ∧ z.cell? ⟨r, 7, none⟩ = some (.pointer (some ⟨f, 0, none⟩))) ∧ z.cell? ⟨bx, 2, none⟩ = some (.int .u32 sm)) := fun z kz => by
    have lb := HZ0.out.2.keep kz id
    rw [HBA.out] at lb
    obtain ⟨dc, hd1, hd2⟩ := dsC
    have hr : z.rangeAt bx 3 [.int .i64 1, .int .i64 1] := fun j u hu => by
      rcases j with _ | _ | j
      · simp at hu; subst hu; exact lb.cell (j := 3) rfl
      · simp at hu; subst hu; exact lb.cell (j := 4) rfl
      · simp at hu
    exact ⟨⟨run_loadVar_mid z bx 3 _ _ dc hr hd1 hd2 (by rw [szC]; rfl), lb.cell (j := 1) rfl, ((HRC.out.keep0 HZ0.out.1).keep0 kz).lr.cell (j := 7) rfl⟩, lb.cell (j := 2) rfl⟩
  refine rj1_region ⟨by kernel_rfl, by kernel_rfl, by kernel_rfl, by kernel_rfl, by kernel_rfl, by kernel_rfl, by kernel_rfl, by kernel_rfl, by kernel_rfl, by kernel_rfl, by kernel_rfl, by kernel_rfl, by kernel_rfl, by kernel_rfl, by kernel_rfl, by kernel_rfl, by kernel_rfl, by kernel_rfl, by kernel_rfl, by kernel_rfl, by kernel_rfl, by kernel_rfl⟩ r bx f g n 0 (fun d _ _ _ _ h => by cases d <;> exact h) (by rfl) (by rfl) (by rfl) (HS1.out _ kd).1 (fun jb z => Kp (fun _ => False) z0 z ∧ Rb z (some ⟨jb, 0, none⟩) n (xs.take n)) ((came2 ((HRC.out.fe.keep0 HZ0.out.1).keep0 kd)).mono ?_) ?_
  · rintro e z ⟨rfl, hz⟩
    obtain rfl := hz.symm
    have kwd := HZ0.out.1.trans kd (fun _ _ e => e)
    refine ⟨rfl, (HS1.out _ kd).1, (join1 z0.drew g cs n ps xs (HRC.out.fe.keep0 kwd).lg (HX.out.1.keep0 kwd) HX.out.2.1 HX.out.2.2.1 (pows_keep HX.out.2.2.2.1 kwd id)).mono ?_⟩
    rintro e z2 ⟨jb, rfl, k2, hr⟩
    have k3 := kd.trans k2 (fun _ _ e => e)
    exact ⟨jb, rfl, (HS1.out _ k3).1, k3, hr⟩
  intro jb z1 hT
  simp only [Act.put, List.setIfInBounds_toArray, List.set_cons_succ, List.set_cons_zero]
  have HZ1 : Hid (Kp (fun _ => False) z0 z1 ∧ Rb z1 (some ⟨jb, 0, none⟩) n (xs.take n)) := hT
  clear hT kd
  go_wp2
  have kd : Kp (fun _ => False) z1 z1.drew := (Kp.refl _ _).drew
  have k1d := HZ1.out.1.trans kd (fun _ _ e => e)
  have kwd := HZ0.out.1.trans k1d (fun _ _ e => e)
  refine rj2_region ⟨by kernel_rfl, by kernel_rfl, by kernel_rfl, by kernel_rfl, by kernel_rfl, by kernel_rfl, by kernel_rfl, by kernel_rfl, by kernel_rfl, by kernel_rfl, by kernel_rfl⟩ bx (.slice (some ⟨jb, 0, none⟩) n n) ((Crc.sum (xs.take n) : Nat) : Int) sm true (fun d _ _ _ _ h => by cases d <;> exact h) (by rfl) (by rfl) (by rfl) ⟨(HS1.out _ k1d).2, HB.out⟩ (fun z => Kp (fun _ => False) z0 z ∧ Rb z (some ⟨jb, 0, none⟩) n (xs.take n)) ((sum_any (some ⟨jb, 0, none⟩) n n (xs.take n) _ (HZ1.out.2.keep0 kd) (by have := HX.out.2.2.1; omega) (HX.out.2.2.2.2.keep0 kwd)).mono ?_) ?_
  · rintro e z ⟨rfl, hz⟩
    obtain rfl := hz.symm
    exact ⟨rfl, ⟨(HS1.out _ k1d).2, HB.out⟩, k1d, HZ1.out.2.keep0 kd⟩
  intro z2 hT
  simp only [Act.put, List.setIfInBounds_toArray, List.set_cons_succ, List.set_cons_zero]
  have HZ2 : Hid (Kp (fun _ => False) w z2 ∧ Rb z2 (some ⟨jb, 0, none⟩) n (xs.take n)) := ⟨HZ0.out.1.trans hT.1 (fun _ _ e => e), hT.2⟩
  clear hT kd k1d kwd HZ1 HS1 HZ0
  have R2 := HRC.out.keep0 HZ2.out.1
  have c7 := R2.lr.cell (j := 7) rfl
  have HFo : Hid (Calls _ _ _ z2 _) := forget2 R2.fe
  have HR2 : Hid (Rco z2 base r f g q oq cq n sm 1 (.slice ps 8 cs) p5 c5) := R2
  clear R2
  go_wp2_with (go_at_call 116; refine HFo.out.mono ?_; rintro e z3 ⟨rfl, k3, fe3⟩)
  refine bodyPost_ret (results_none rfl _ _ _) rfl ?_
  have R2 := HR2.out
  exact ⟨rfl, (HZ2.out.1.mono (fun _ _ e => e.elim)).trans k3 (fun _ _ e => e), R2.lr.keep k3 (fun e => by have := R2.ne; omega), fe3, R2.fl.keep k3 (fun b hb e => by omega), R2.ne, R2.b⟩

set_option maxRecDepth 100000 in
set_option maxHeartbeats 3200000 in
theorem join_good {w : World} {base r f g q oq cq n : Nat} {sm : Int} {p5 : Option Addr} {c5 : Nat} (ps : Option Addr) (cs : Nat) (xs : List Nat) (h : Rco w base r f g q oq cq n sm 1 (.slice ps 8 cs) p5 c5) (hx : Rb w ps 8 xs) (h1 : 1 ≤ n) (h8 : n ≤ 8) (hp : Mf.Pows w) (ht : Turns w) (HB : Hid ((((Crc.sum (xs.take n) : Nat) : Int) != sm) = false)) :
    Calls Tryd.prog 98 #[.pointer (some ⟨r, 0, none⟩)] w fun e w' => e = .returned (.tuple #[]) ∧ Kp (fun b => b = r) w w' ∧ ∃ nv sp, Lv w' r (recA 2 2 nv (.pointer none) (.pointer (some ⟨sp, 0, none⟩))) ∧ w'.cell? ⟨sp, 3, none⟩ = some (.int .i64 1) := by
  have HRC : Hid (Rco w base r f g q oq cq n sm 1 (.slice ps 8 cs) p5 c5) := h
  have HX : Hid (Rb w ps 8 xs ∧ 1 ≤ n ∧ n ≤ 8 ∧ Mf.Pows w ∧ Turns w) := ⟨hx, h1, h8, hp, ht⟩
  have HBl : Hid (∀ u, Kp (fun _ => False) w u → Calls _ _ _ u _) := fun u k => blob2 (h.fe.keep0 k)
  have HO : Hid ((blobA (bF n sm) (.slice (some ⟨q, oq, none⟩) 2 cq)).toList.toArray.all (·.oneCell') = true) := blob_one _ rfl
  have c7 := h.lr.cell (j := 7) rfl
  obtain ⟨ba, hba⟩ : ∃ ba : Array Value, ba = blobA (bF n sm) (.slice (some ⟨q, oq, none⟩) 2 cq) := ⟨_, rfl⟩
  have HBA : Hid (ba = blobA (bF n sm) (.slice (some ⟨q, oq, none⟩) 2 cq)) := hba
  rw [← hba] at HBl HO
  clear h hx h1 h8 hp ht hba
  go_enter Tryd.func98, Tryd.ntmps98
  go_wp2_with (first
    | (go_at_call 94; refine (HBl.out _ (Kp.refl _ _)).mono ?_; rintro e w1 ⟨rfl, k1⟩)
    | (refine wpList_store_all rfl 33 _ _ rfl 6 w1.heap.size zeroB.toList ba.toList rfl (by rw [Array.toArray_toList]; rfl) (by exact Lv.new w1 _ _) szBlob rfl (by rw [HBA.out]; rfl) HO.out ?_; intro z0 hl0 k2; have HZ0 : Hid (Kp (fun _ => False) w z0 ∧ Lv z0 w1.heap.size ba.toList) := ⟨k1.trans (((Kp.refl (fun _ => False) w1).alloc _).trans k2 (fun b hb e => by omega)) (fun _ _ e => e), hl0⟩; clear hl0 k2))
  obtain ⟨bx, hbx⟩ : ∃ bx, bx = w1.heap.size := ⟨_, rfl⟩
  rw [← hbx] at HZ0 ⊢
  clear hbx k1 c7 HBl HO
  have kd : Kp (fun _ => False) z0 z0.drew := (Kp.refl _ _).drew
  have dsC : ∃ d, Tryd.prog.underlying 26 = some d ∧ d.isRow = true := ⟨_, Tryd.underlying26, rfl⟩
  have szC : (Tryd.prog.info? 26).map (·.size) = some 2 := by kernel_rfl
  have HS1 : Hid (∀ z, Kp (fun _ => False) z0 z → ((loadVar 26 ⟨bx, 3, none⟩).run Tryd.prog z = .ok (.agg #[.int .i64 1, .int .i64 1]) z ∧ z.cell? ⟨bx, 1, none⟩ = some (.int .i64 (n : Int)) ∧ z.cell? ⟨r, 7, none⟩ = some (.pointer (some ⟨f, 0, none⟩))) ∧ z.cell? ⟨bx, 2, none⟩ = some (.int .u32 sm)) := fun z kz => by
    have lb := HZ0.out.2.keep kz id
    rw [HBA.out] at lb
    obtain ⟨dc, hd1, hd2⟩ := dsC
    have hr : z.rangeAt bx 3 [.int .i64 1, .int .i64 1] := fun j u hu => by
      rcases j with _ | _ | j
      · simp at hu; subst hu; exact lb.cell (j := 3) rfl
      · simp at hu; subst hu; exact lb.cell (j := 4) rfl
      · simp at hu
    exact ⟨⟨run_loadVar_mid z bx 3 _ _ dc hr hd1 hd2 (by rw [szC]; rfl), lb.cell (j := 1) rfl, ((HRC.out.keep0 HZ0.out.1).keep0 kz).lr.cell (j := 7) rfl⟩, lb.cell (j := 2) rfl⟩
  refine rj1_region ⟨by kernel_rfl, by kernel_rfl, by kernel_rfl, by kernel_rfl, by kernel_rfl, by kernel_rfl, by kernel_rfl, by kernel_rfl, by kernel_rfl, by kernel_rfl, by kernel_rfl, by kernel_rfl, by kernel_rfl, by kernel_rfl, by kernel_rfl, by kernel_rfl, by kernel_rfl, by kernel_rfl, by kernel_rfl, by kernel_rfl, by kernel_rfl, by kernel_rfl⟩ r bx f g n 0 (fun d _ _ _ _ h => by cases d <;> exact h) (by rfl) (by rfl) (by rfl) (HS1.out _ kd).1 (fun jb z => Kp (fun _ => False) z0 z ∧ Rb z (some ⟨jb, 0, none⟩) n (xs.take n)) ((came2 ((HRC.out.fe.keep0 HZ0.out.1).keep0 kd)).mono ?_) ?_
  · rintro e z ⟨rfl, hz⟩
    obtain rfl := hz.symm
    have kwd := HZ0.out.1.trans kd (fun _ _ e => e)
    refine ⟨rfl, (HS1.out _ kd).1, (join1 z0.drew g cs n ps xs (HRC.out.fe.keep0 kwd).lg (HX.out.1.keep0 kwd) HX.out.2.1 HX.out.2.2.1 (pows_keep HX.out.2.2.2.1 kwd id)).mono ?_⟩
    rintro e z2 ⟨jb, rfl, k2, hr⟩
    have k3 := kd.trans k2 (fun _ _ e => e)
    exact ⟨jb, rfl, (HS1.out _ k3).1, k3, hr⟩
  intro jb z1 hT
  simp only [Act.put, List.setIfInBounds_toArray, List.set_cons_succ, List.set_cons_zero]
  have HZ1 : Hid (Kp (fun _ => False) z0 z1 ∧ Rb z1 (some ⟨jb, 0, none⟩) n (xs.take n)) := hT
  clear hT kd
  go_wp2
  have kd : Kp (fun _ => False) z1 z1.drew := (Kp.refl _ _).drew
  have k1d := HZ1.out.1.trans kd (fun _ _ e => e)
  have kwd := HZ0.out.1.trans k1d (fun _ _ e => e)
  refine rj2_region ⟨by kernel_rfl, by kernel_rfl, by kernel_rfl, by kernel_rfl, by kernel_rfl, by kernel_rfl, by kernel_rfl, by kernel_rfl, by kernel_rfl, by kernel_rfl, by kernel_rfl⟩ bx (.slice (some ⟨jb, 0, none⟩) n n) ((Crc.sum (xs.take n) : Nat) : Int) sm false (fun d _ _ _ _ h => by cases d <;> exact h) (by rfl) (by rfl) (by rfl) ⟨(HS1.out _ k1d).2, HB.out⟩ (fun z => Kp (fun _ => False) z0 z ∧ Rb z (some ⟨jb, 0, none⟩) n (xs.take n)) ((sum_any (some ⟨jb, 0, none⟩) n n (xs.take n) _ (HZ1.out.2.keep0 kd) (by have := HX.out.2.2.1; omega) (HX.out.2.2.2.2.keep0 kwd)).mono ?_) ?_
  · rintro e z ⟨rfl, hz⟩
    obtain rfl := hz.symm
    exact ⟨rfl, ⟨(HS1.out _ k1d).2, HB.out⟩, k1d, HZ1.out.2.keep0 kd⟩
  intro z2 hT
  simp only [Act.put, List.setIfInBounds_toArray, List.set_cons_succ, List.set_cons_zero]
  have HZ2 : Hid (Kp (fun _ => False) w z2 ∧ Rb z2 (some ⟨jb, 0, none⟩) n (xs.take n)) := ⟨HZ0.out.1.trans hT.1 (fun _ _ e => e), hT.2⟩
  clear hT kd k1d kwd HZ1 HS1 HZ0
  have R2 := HRC.out.keep0 HZ2.out.1
  have c7 := R2.lr.cell (j := 7) rfl
  have c4 := R2.lr.cell (j := 4) rfl
  have c5' := R2.lr.cell (j := 5) rfl
  have HCut : Hid (Calls Tryd.prog 101 #[.agg #[.int .i64 1, .int .i64 0], .slice (some ⟨jb, 0, none⟩) n n] z2 fun e w' => ∃ t, e = .returned (.tuple #[.slice (some ⟨t, 0, none⟩) 1 1, .int .i64 0]) ∧ Kp (fun _ => False) z2 w') := (cut_ok 1 0 n n _ (xs.take n) z2 HZ2.out.2 (by decide) (by decide) (by have := HX.out.2.2.1; omega) (pows_keep HX.out.2.2.2.1 HZ2.out.1 id)).mono fun e w' hh => by
    obtain ⟨t, B, he, hk, _⟩ := hh
    exact ⟨t, he, hk⟩
  have HR2 : Hid (Rco z2 base r f g q oq cq n sm 1 (.slice ps 8 cs) p5 c5) := R2
  clear R2 c7
  go_wp2_with (go_at_call 101; refine HCut.out.mono ?_; rintro e z3 ⟨t, rfl, k3⟩)
  have R3 := HR2.out.keep0 k3
  have HZ3 : Hid (Kp (fun _ => False) w z3) := HZ2.out.1.trans k3 (fun _ _ e => e)
  clear c4 c5' HCut HR2 k3
  have kd : Kp (fun _ => False) z3 z3.drew := (Kp.refl _ _).drew
  have Rd := R3.keep0 kd
  have hns := newStore_ok 6 1 c5 t 1 p5 _ [5] z3.drew Rd.fl rfl (by decide)
  refine rj5_region ⟨by kernel_rfl, by kernel_rfl, by kernel_rfl, by kernel_rfl, by kernel_rfl, by kernel_rfl, by kernel_rfl, by kernel_rfl, by kernel_rfl, by kernel_rfl, by kernel_rfl, by kernel_rfl, by kernel_rfl, by kernel_rfl, by kernel_rfl, by kernel_rfl, by kernel_rfl, by kernel_rfl, by kernel_rfl, by kernel_rfl, by kernel_rfl, by kernel_rfl, by kernel_rfl⟩ r t 1 1 c5 0 p5 (fun d _ _ _ _ h => by cases d <;> exact h) (by rfl) (by rfl) (by rfl) ⟨Rd.lr.cell (j := 3) rfl, Rd.lr.cell (j := 6) rfl⟩ (fun sp z => Kp (fun b => b = r) w z ∧ Lv z r (recA 1 2 (.slice p5 1 c5) (.pointer (some ⟨f, 0, none⟩)) (.pointer (some ⟨sp, 0, none⟩))) ∧ z.cell? ⟨sp, 3, none⟩ = some (.int .i64 1) ∧ r ≠ sp) (hns.mono ?_) ?_
  · rintro e z ⟨sp, q2, c2, rfl, kz, hsp, hsp2, lsp, _⟩
    have Rz := Rd.keep0 kz
    have hrl : r < z3.drew.heap.size := Rd.lr.lt (by simp)
    have ks : Kp (fun b => b = r) z (z.setCell ⟨r, 8, none⟩ (.pointer (some ⟨sp, 0, none⟩))) := (Kp.refl (fun b => b = r) z).setCell (fun _ => rfl) _
    have hl8 : Lv (z.setCell ⟨r, 8, none⟩ (.pointer (some ⟨sp, 0, none⟩))) r (recA 1 2 (.slice p5 1 c5) (.pointer (some ⟨f, 0, none⟩)) (.pointer (some ⟨sp, 0, none⟩))) := Rz.lr.set1 8 _ (by simp)
    refine ⟨sp, .pointer none, rfl, ⟨Rz.lr.cell (j := 3) rfl, Rz.lr.cell (j := 6) rfl⟩, ⟨hl8.cell (j := 3) rfl, hl8.cell (j := 6) rfl⟩, Rz.lr.cell (j := 8) rfl, Rz.lr.fz (j := 8) (by simp), ((HZ3.out.trans (kd.trans kz (fun _ _ e => e)) (fun _ _ e => e)).mono (fun _ _ e => e.elim)).trans ks (fun _ _ e => e), hl8, ?_, by omega⟩
    exact ks.cellv (lsp.cell (j := 3) rfl) (fun e => by have e' : sp = r := e; omega)
  intro sp z4 hT
  simp only [Act.put, List.setIfInBounds_toArray, List.set_cons_succ, List.set_cons_zero]
  obtain ⟨y, hy⟩ : ∃ y, y = z4.setCell ⟨r, 8, none⟩ (.pointer (some ⟨sp, 0, none⟩)) := ⟨_, rfl⟩
  rw [← hy] at hT ⊢
  obtain ⟨kwy, ly, csp, hne⟩ := hT
  have c0 := ly.cell (j := 0) rfl
  have f0 := ly.fz (j := 0) (by simp)
  have c7 := ly.cell (j := 7) rfl
  have f7 := ly.fz (j := 7) (by simp)
  have HF : Hid (Kp (fun b => b = r) w ((y.setCell ⟨r, 0, none⟩ (.int .i64 2)).setCell ⟨r, 7, none⟩ (.pointer none)) ∧ Lv ((y.setCell ⟨r, 0, none⟩ (.int .i64 2)).setCell ⟨r, 7, none⟩ (.pointer none)) r (recA 2 2 (.slice p5 1 c5) (.pointer none) (.pointer (some ⟨sp, 0, none⟩))) ∧ ((y.setCell ⟨r, 0, none⟩ (.int .i64 2)).setCell ⟨r, 7, none⟩ (.pointer none)).cell? ⟨sp, 3, none⟩ = some (.int .i64 1)) := by
    have l1 : Lv (y.setCell ⟨r, 0, none⟩ (.int .i64 2)) r (recA 2 2 (.slice p5 1 c5) (.pointer (some ⟨f, 0, none⟩)) (.pointer (some ⟨sp, 0, none⟩))) := ly.set1 0 _ (by simp)
    have ks : Kp (fun b => b = r) y ((y.setCell ⟨r, 0, none⟩ (.int .i64 2)).setCell ⟨r, 7, none⟩ (.pointer none)) := ((Kp.refl (fun b => b = r) y).setCell (fun _ => rfl) _).setCell (fun _ => rfl) _
    exact ⟨kwy.trans ks (fun _ _ e => e), l1.set1 7 _ (by simp), ks.cellv csp (fun e => hne e.symm)⟩
  clear hy kwy ly csp hne R3 Rd kd hns
  go_wp2
  go_end0
  exact ⟨rfl, HF.out.1, .slice p5 1 c5, sp, HF.out.2.1, HF.out.2.2⟩
end Go.Proofs.YtmncocmeafcpfaaDoor
