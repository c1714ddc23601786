/- A log of a new plate: begin, open, Open. -/
import Derived.Test.YtippipeebkkghaaGreatDoorAr
namespace Go.Proofs.YtippipeebkkghaaGreatDoor
set_option linter.unusedVariables false
set_option linter.unusedSimpArgs false
open Go.RowKit Go.Deep

set_option maxRecDepth 100000 in
set_option maxHeartbeats 3200000 in
theorem begin_ok {w : World} {g bp d m n q s : Nat} {dur : List Nat} {T : Nat → Option (List Nat)} (h : Pt w bp d m n q dur T) (hq : (q : Int) < 9223372036854775807) (hs : n = 2 + s) (hall : ∀ i, i < n → nowOf dur T i = nouW 64) (A : H4) (fv : Value) (last : Int) (hl : Lv w g (walC bp s A fv last)) (hgd : g ≠ d) (hgm : g ≠ m) (hgb : bp ≠ g) (hgt : g ≠ 0) (ht : Turns w) :
    Calls Tryz.prog 93 #[.pointer (some ⟨g, 0, none⟩)] w fun e9 w' => e9 = .returned .nilIface ∧ Kp (fun x => x = d ∨ x = m ∨ x = g) w w' ∧ Pt w' bp d m n 0 (wrHead dur T n 1 (hdB 1 1 0 1)) (fun _ => none) ∧ ∃ gf cap l, w.heap.size ≤ gf ∧ Lv w' g (walC bp s ⟨1, 1, 0, 1⟩ (.slice (some ⟨gf, 0, none⟩) s cap) last) ∧ w'.ownsRow 0 3 1 (.slice (some ⟨gf, 0, none⟩) s cap) s (nls l) ∧ Free l 0 s := by
  obtain ⟨aa, ab, ac, ad⟩ := A
  have HP : Hid (Pt w bp d m n q dur T) := h
  have HL : Hid (Lv w g (walC bp s ⟨aa, ab, ac, ad⟩ fv last)) := hl
  have HT : Hid (Turns w) := ht
  have HA : Hid (∀ i, i < n → nowOf dur T i = nouW 64) := hall
  have HG : Hid (g < w.heap.size ∧ g ≠ d ∧ g ≠ m ∧ bp ≠ g ∧ d < w.heap.size ∧ m < w.heap.size ∧ (q : Int) < 9223372036854775807) := ⟨hl.lt (by simp), hgd, hgm, hgb, h.row.lt, h.mp.lt, hq⟩
  have HGt : Hid (g ≠ 0) := hgt
  have HN : Hid (n = 2 + s ∧ n ≤ 8192) := ⟨hs, h.n2⟩
  have v0 := hl.cell (j := 0) rfl
  have v1 := hl.cell (j := 1) rfl
  have HWn : Hid (wrap64 (2 + (s : Int)) = (n : Int)) := by have := h.n2; show _ = _; unfold wrap64; omega
  have hnn := nil_neq
  clear h hl ht hall hgd hgm hgb hq hs hgt
  go_enter Tryz.func93, Tryz.ntmps93
  go_wp2_with fail
  rw [show wrap64 ((2 : Int) + (s : Int)) = (n : Int) from HWn.out]
  go_loopg [12] n (fun gk iv wr => ∃ i : Nat, i ≤ n ∧ gk = n - i ∧ iv = .int .i64 i ∧ Hid (Kp (fun _ => False) w wr))
  case atStart => exact ⟨0, Nat.zero_le _, rfl, rfl, Kp.refl _ _⟩
  case round =>
    obtain ⟨i, hi, rfl, rfl, HK⟩ := hrel
    clear v0 v1
    have hlr : Lv wr g (walC bp s ⟨aa, ab, ac, ad⟩ fv last) := HL.out.keep HK.out id
    have v0 := hlr.cell (j := 0) rfl
    have v1 := hlr.cell (j := 1) rfl
    by_cases hlt : i < n
    · have hlt2 : (i : Int) < (n : Int) := by omega
      have HR : Hid (Calls _ _ _ wr _) := rread_ok (HP.out.keep0 HK.out) s i (by omega)
      rw [HA.out i hlt] at HR
      have hwi : wrap64 ((i : Int) + 1) = ((i + 1 : Nat) : Int) := by have := HN.out; unfold wrap64; omega
      clear hlr
      go_wp2_with fail
      refine HR.out.mono ?_
      rintro e9 w1 ⟨g1, c1, hg, hc, rfl, k1, rb1⟩
      have HK1 : Hid (Kp (fun _ => False) w w1) := HK.out.trans k1 (fun _ _ e => e)
      have HB : Hid (Calls _ _ _ w1 _) := isBlank_ok g1 0 c1 (nouW 64) w1 rb1
      rw [decide_eq_true rfl] at HB
      clear k1 rb1 hg hc HR v0 v1
      go_wp2_with fail
      refine HB.out.mono ?_
      rintro e9 w2 ⟨rfl, k2⟩
      have HK2 : Hid (Kp (fun _ => False) w w2) := HK1.out.trans k2 (fun _ _ e => e)
      clear k2 HB
      go_wp2
      go_roundg (n - (i + 1))
      case rel => exact ⟨i + 1, by omega, rfl, by first | rw [hwi] | simp, HK2⟩
      case measure => omega
    · have hin : i = n := by omega
      subst hin
      have hlt2 : ¬ ((i : Int) < (i : Int)) := by omega
      have HF : Hid (Calls _ _ _ wr _) := placesFrom_ok 0 s wr (by have := HN.out; omega) (by decide)
      have HLr : Hid (Lv wr g (walC bp s ⟨aa, ab, ac, ad⟩ fv last)) := hlr
      clear hlr
      go_wp2_with fail
      refine HF.out.mono ?_
      rintro e9 w1 ⟨gf, cap, l, hgf, rfl, k1, ow1, fr1⟩
      have hl1 : Lv w1 g (walC bp s ⟨aa, ab, ac, ad⟩ fv last) := HLr.out.keep k1 id
      have hl2 := hl1.set1 6 (.slice (some ⟨gf, 0, none⟩) s cap) (by simp)
      have v6 := hl1.cell (j := 6) rfl
      have f6 := hl1.fz (j := 6) (show 6 < 8 by decide)
      obtain ⟨w2, hw2⟩ : ∃ y, y = w1.setCell ⟨g, 6, none⟩ (.slice (some ⟨gf, 0, none⟩) s cap) := ⟨_, rfl⟩
      rw [← hw2] at hl2
      have HL2 : Hid (Lv w2 g (walC bp s ⟨aa, ab, ac, ad⟩ (.slice (some ⟨gf, 0, none⟩) s cap) last)) := hl2
      have k12 : Kp (fun x => x = g) w1 w2 := by rw [hw2]; exact kp_set
      have HGf : Hid (w.heap.size ≤ gf ∧ Free l 0 s) := ⟨by have := HK.out.size; omega, fr1⟩
      have HO2 : Hid (w2.ownsRow 0 3 1 (.slice (some ⟨gf, 0, none⟩) s cap) s (nls l)) := ownsRow_keep ow1 k12 (fun g' e e2 => by have e' : some gf = some g' := e; injection e' with e'; have := HG.out.1; have := HGf.out.1; omega)
      have HK2 : Hid (Kp (fun x => x = g) w w2) := ((HK.out.trans k1 (fun _ _ e => e)).mono (fun _ _ e => e.elim)).trans k12 (fun _ _ e => e)
      have HP2 : Hid (Pt w2 bp d m i q dur T) := HP.out.keep HK2.out HG.out.2.2.2.1 (fun e => HG.out.2.1 e.symm) (fun e => HG.out.2.2.1 e.symm)
      have HTn : Hid (Calls Tryz.prog 145 #[.pointer (some ⟨g, 0, none⟩), headV 1 1 0 1] w2 fun e9 w' => e9 = .returned .nilIface ∧ Kp (fun x => x = d ∨ x = m ∨ x = g) w2 w' ∧ Pt w' bp d m i 0 (wrHead dur T i 1 (hdB 1 1 0 1)) (fun _ => none) ∧ Lv w' g (walC bp s ⟨1, 1, 0, 1⟩ (.slice (some ⟨gf, 0, none⟩) s cap) last)) :=
        turn_ok HP2.out HG.out.2.2.2.2.2.2 (by have := HN.out; omega) s _ _ last HL2.out HG.out.2.1 HG.out.2.2.1 HG.out.2.2.2.1 1 1 0 1 (by decide) (by decide) (by decide) (by decide) (fun j hj => HK2.out.cellv (HT.out j hj) (fun e => HGt.out e.symm))
      clear hl1 hl2 k1 ow1 fr1 hgf k12 HL2
      go_wp2_with fail
      rw [← hw2]
      clear hw2 v6 f6
      refine HTn.out.mono ?_
      rintro e9 w3 ⟨rfl, k3, p3, l3⟩
      have HF3 : Hid (Kp (fun x => x = d ∨ x = m ∨ x = g) w w3 ∧ Pt w3 bp d m i 0 (wrHead dur T i 1 (hdB 1 1 0 1)) (fun _ => none) ∧ Lv w3 g (walC bp s ⟨1, 1, 0, 1⟩ (.slice (some ⟨gf, 0, none⟩) s cap) last) ∧ w3.ownsRow 0 3 1 (.slice (some ⟨gf, 0, none⟩) s cap) s (nls l)) :=
        ⟨(HK2.out.mono (fun _ _ e => Or.inr (Or.inr e))).trans k3 (fun _ _ e => e), p3, l3, ownsRow_keep HO2.out k3 (fun g' e e2 => by have e' : some gf = some g' := e; injection e' with e'; have := HG.out; have := HGf.out.1; omega)⟩
      clear k3 p3 l3 HTn
      go_wp2
      go_ret
      exact ⟨rfl, HF3.out.1, HF3.out.2.1, gf, cap, l, HGf.out.1, HF3.out.2.2.1, HF3.out.2.2.2, HGf.out.2⟩
theorem hf_nou : ∀ k, hfW (nouW k) = 0
  | 0 => rfl
  | k + 1 => by
    rw [show nouW (k + 1) = nouW k ++ [0] from List.replicate_succ', hfW_snoc, hf_nou k]
theorem numAt_nou (o : Nat) : numAt (nouW 64) o = 0 := by
  unfold numAt nouW
  rw [List.drop_replicate, List.take_replicate]
  rw [hf_nou]
  rfl
theorem newH_nou {dur : List Nat} {T : Nat → Option (List Nat)} {s : Int} (h : ∀ i, i < 2 → nowOf dur T i = nouW 64) : newH dur T s 2 = ⟨0, 0, 0, 0⟩ := by
  have h1 : ∀ i A, i < 2 → stepH dur T s A i = A := fun i A hi => by
    unfold stepH okH rightH sayH
    rw [h i hi, numAt_nou, numAt_nou, numAt_nou, numAt_nou]
    rfl
  show stepH dur T s (stepH dur T s ⟨0, 0, 0, 0⟩ 0) 1 = _
  rw [h1 0 _ (by omega), h1 1 _ (by omega)]

set_option maxRecDepth 100000 in
set_option maxHeartbeats 1600000 in
theorem openNew_ok {w : World} {g bp d m n q s : Nat} {dur : List Nat} {T : Nat → Option (List Nat)} (h : Pt w bp d m n q dur T) (hq : (q : Int) < 9223372036854775807) (hs : n = 2 + s) (hall : ∀ i, i < n → nowOf dur T i = nouW 64) (A : H4) (fv : Value) (last : Int) (hl : Lv w g (walC bp s A fv last)) (hgd : g ≠ d) (hgm : g ≠ m) (hgb : bp ≠ g) (hgt : g ≠ 0) (ht : Turns w) :
    Calls Tryz.prog 60 #[.pointer (some ⟨g, 0, none⟩)] w fun e9 w' => e9 = .returned (.tuple #[.slice none 0 0, .nilIface]) ∧ Kp (fun x => x = d ∨ x = m ∨ x = g) w w' ∧ Pt w' bp d m n 0 (wrHead dur T n 1 (hdB 1 1 0 1)) (fun _ => none) ∧ ∃ gf cap l, w.heap.size ≤ gf ∧ Lv w' g (walC bp s ⟨1, 1, 0, 1⟩ (.slice (some ⟨gf, 0, none⟩) s cap) last) ∧ w'.ownsRow 0 3 1 (.slice (some ⟨gf, 0, none⟩) s cap) s (nls l) ∧ Free l 0 s := by
  have HW : Hid (Calls Tryz.prog 92 #[ringV bp s] w fun e w' => e = .returned (.tuple #[headV 0 0 0 0, flt 0 70]) ∧ Kp (fun _ => False) w w') := (newest_ok h s (by have := h.n2; omega) (by omega) ht).mono fun e w' ⟨he, hk⟩ => ⟨by
    rw [newH_nou (fun i hi => hall i (by omega))] at he
    unfold NewRes at he
    rw [if_pos rfl] at he
    exact he, hk⟩
  have HB : Hid (∀ u, Kp (fun _ => False) w u → Calls Tryz.prog 93 #[.pointer (some ⟨g, 0, none⟩)] u fun e9 w' => e9 = .returned .nilIface ∧ Kp (fun x => x = d ∨ x = m ∨ x = g) u w' ∧ Pt w' bp d m n 0 (wrHead dur T n 1 (hdB 1 1 0 1)) (fun _ => none) ∧ ∃ gf cap l, u.heap.size ≤ gf ∧ Lv w' g (walC bp s ⟨1, 1, 0, 1⟩ (.slice (some ⟨gf, 0, none⟩) s cap) last) ∧ w'.ownsRow 0 3 1 (.slice (some ⟨gf, 0, none⟩) s cap) s (nls l) ∧ Free l 0 s) := fun u k => begin_ok (h.keep0 k) hq hs hall A fv last (hl.keep k id) hgd hgm hgb hgt (fun j hj => k.cellv (ht j hj) id)
  have HI : Hid (∀ u, Calls Tryz.prog 31 #[flt 0 70, eno 70] u fun e w' => e = .returned (.bool true) ∧ Kp (fun _ => False) u w') := fun u => is_flt 0 70 70 u
  obtain ⟨aa, ab, ac, ad⟩ := A
  have v0 := hl.cell (j := 0) rfl
  have v1 := hl.cell (j := 1) rfl
  clear h hl ht hall hgd hgm hgb hq hs hgt
  go_enter Tryz.func60, Tryz.ntmps60
  go_wp2_with fail
  refine HW.out.mono ?_
  rintro e9 w1 ⟨rfl, k1⟩
  have HK1 : Hid (Kp (fun _ => False) w w1) := k1
  clear k1 HW v0 v1
  go_upto_region 2 with fail
  obtain ⟨w2, hw2⟩ : ∃ y, y = w1.alloc (.cells #[.int .i64 0, .int .i64 0, .int .i64 0, .int .i64 0] 134) := ⟨_, rfl⟩
  have HK2 : Hid (Kp (fun _ => False) w w2) := HK1.out.trans (S' := fun _ => False) (by rw [hw2]; exact (Kp.refl _ _).alloc _) (fun _ _ e => e)
  try rw [← hw2]
  clear hw2
  go_wp2_with fail
  refine (HI.out _).mono ?_
  rintro e9 w3 ⟨rfl, k3⟩
  have HK3 : Hid (Kp (fun _ => False) w w3) := HK2.out.trans k3 (fun _ _ e => e)
  clear k3 HI
  go_wp2_with fail
  refine (HB.out w3 HK3.out).mono ?_
  rintro e9 w4 ⟨rfl, k4, p4, gf, cap, l, hgf, l4, o4, f4⟩
  have HF : Hid (Kp (fun x => x = d ∨ x = m ∨ x = g) w w4 ∧ Pt w4 bp d m n 0 (wrHead dur T n 1 (hdB 1 1 0 1)) (fun _ => none) ∧ Lv w4 g (walC bp s ⟨1, 1, 0, 1⟩ (.slice (some ⟨gf, 0, none⟩) s cap) last) ∧ w4.ownsRow 0 3 1 (.slice (some ⟨gf, 0, none⟩) s cap) s (nls l) ∧ Free l 0 s ∧ w.heap.size ≤ gf) := ⟨(HK3.out.mono (fun _ _ e => e.elim)).trans k4 (fun _ _ e => e), p4, l4, o4, f4, by have := HK3.out.size; omega⟩
  clear k4 p4 hgf l4 o4 f4 HB
  go_wp2
  go_ret2
  exact ⟨rfl, HF.out.1, HF.out.2.1, gf, cap, l, HF.out.2.2.2.2.2, HF.out.2.2.1, HF.out.2.2.2.1, HF.out.2.2.2.2.1⟩
end Go.Proofs.YtippipeebkkghaaGreatDoor
