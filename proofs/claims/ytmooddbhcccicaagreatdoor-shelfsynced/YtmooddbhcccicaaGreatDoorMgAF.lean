/- Texts of this proof, joined: MgAQ, MgAR, MgAS. -/
import Derived.Test.YtmooddbhcccicaaGreatDoorMgAP
import Derived.RangeFuncBox
import Derived.RangeFuncLeaves
import Derived.Shelf.SlIterI.Sorted
import Derived.OwnWalkIn
import Derived.TacticsInMore
import Derived.LoopNIn
import Derived.LoopIn
import Derived.Lib.SmallJoins
import Derived.BigRegion
import Derived.Deep.RegionHeld3
/- Texts of this proof, joined: As, At. -/
/- A log of a new plate: begin, open, Open. -/
namespace Go.Proofs.YtmooddbhcccicaaGreatDoor
set_option linter.unusedVariables false
set_option linter.unusedSimpArgs false
open Go.RowKit Go.Deep

set_option maxRecDepth 100000 in
set_option maxHeartbeats 3200000 in
theorem begin_ok {w : World} {g bp d m n q s : Nat} {dur : List Nat} {T : Nat → Option (List Nat)} (h : Pt w bp d m n q dur T) (hq : (q : Int) < 9223372036854775807) (hs : n = 2 + s) (hall : ∀ i, i < n → nowOf dur T i = nouW 64) (A : H4) (fv : Value) (last : Int) (hl : Lv w g (walC bp s A fv last)) (hgd : g ≠ d) (hgm : g ≠ m) (hgb : bp ≠ g) (hgt : g ≠ 0) (ht : Turns w) :
    Calls Tryz.prog 141 #[.pointer (some ⟨g, 0, none⟩)] w fun e9 w' => e9 = .returned .nilIface ∧ Kp (fun x => x = d ∨ x = m ∨ x = g) w w' ∧ Pt w' bp d m n 0 (wrHead dur T n 1 (hdB 1 1 0 1)) (fun _ => none) ∧ ∃ gf cap l, w.heap.size ≤ gf ∧ Lv w' g (walC bp s ⟨1, 1, 0, 1⟩ (.slice (some ⟨gf, 0, none⟩) s cap) last) ∧ w'.ownsRow 0 3 1 (.slice (some ⟨gf, 0, none⟩) s cap) s (nls l) ∧ Free l 0 s := by
  obtain ⟨aa, ab, ac, ad⟩ := A
  have HP : Hid (Pt w bp d m n q dur T) := h
  have HL : Hid (Lv w g (walC bp s ⟨aa, ab, ac, ad⟩ fv last)) := hl
  have HT : Hid (Turns w) := ht
  have HA : Hid (∀ i, i < n → nowOf dur T i = nouW 64) := hall
  have HG : Hid (g < w.heap.size ∧ g ≠ d ∧ g ≠ m ∧ bp ≠ g ∧ d < w.heap.size ∧ m < w.heap.size ∧ (q : Int) < 9223372036854775807) := ⟨hl.lt (by simp), hgd, hgm, hgb, h.row.lt, h.mp.lt, hq⟩
  have HGt : Hid (g ≠ 0) := hgt
  have HN : Hid (n = 2 + s ∧ n ≤ 8192) := ⟨hs, h.n2⟩
  have v0 := hl.cell (j := 0) rfl
  have v1 := hl.cell (j := 1) rfl
  have HWn : Hid (wrap64 (2 + (s : Int)) = (n : Int)) := by have := h.n2; show _ = _; unfold wrap64; omega
  have hnn := nil_neq
  clear h hl ht hall hgd hgm hgb hq hs hgt
  go_enter Tryz.func141, Tryz.ntmps141
  go_wp2_with fail
  rw [show wrap64 ((2 : Int) + (s : Int)) = (n : Int) from HWn.out]
  go_loopg [12] n (fun gk iv wr => ∃ i : Nat, i ≤ n ∧ gk = n - i ∧ iv = .int .i64 i ∧ Hid (Kp (fun _ => False) w wr))
  case atStart => exact ⟨0, Nat.zero_le _, rfl, rfl, Kp.refl _ _⟩
  case round =>
    obtain ⟨i, hi, rfl, rfl, HK⟩ := hrel
    clear v0 v1
    have hlr : Lv wr g (walC bp s ⟨aa, ab, ac, ad⟩ fv last) := HL.out.keep HK.out id
    have v0 := hlr.cell (j := 0) rfl
    have v1 := hlr.cell (j := 1) rfl
    by_cases hlt : i < n
    · have hlt2 : (i : Int) < (n : Int) := by omega
      have HR : Hid (Calls _ _ _ wr _) := rread_ok (HP.out.keep0 HK.out) s i (by omega)
      rw [HA.out i hlt] at HR
      have hwi : wrap64 ((i : Int) + 1) = ((i + 1 : Nat) : Int) := by have := HN.out; unfold wrap64; omega
      clear hlr
      go_wp2_with fail
      refine HR.out.mono ?_
      rintro e9 w1 ⟨g1, c1, hg, hc, rfl, k1, rb1⟩
      have HK1 : Hid (Kp (fun _ => False) w w1) := HK.out.trans k1 (fun _ _ e => e)
      have HB : Hid (Calls _ _ _ w1 _) := isBlank_ok g1 0 c1 (nouW 64) w1 rb1
      rw [decide_eq_true rfl] at HB
      clear k1 rb1 hg hc HR v0 v1
      go_wp2_with fail
      refine HB.out.mono ?_
      rintro e9 w2 ⟨rfl, k2⟩
      have HK2 : Hid (Kp (fun _ => False) w w2) := HK1.out.trans k2 (fun _ _ e => e)
      clear k2 HB
      go_wp2
      go_roundg (n - (i + 1))
      case rel => exact ⟨i + 1, by omega, rfl, by first | rw [hwi] | simp, HK2⟩
      case measure => omega
    · have hin : i = n := by omega
      subst hin
      have hlt2 : ¬ ((i : Int) < (i : Int)) := by omega
      have HF : Hid (Calls _ _ _ wr _) := placesFrom_ok 0 s wr (by have := HN.out; omega) (by decide)
      have HLr : Hid (Lv wr g (walC bp s ⟨aa, ab, ac, ad⟩ fv last)) := hlr
      clear hlr
      go_wp2_with fail
      refine HF.out.mono ?_
      rintro e9 w1 ⟨gf, cap, l, hgf, rfl, k1, ow1, fr1⟩
      have hl1 : Lv w1 g (walC bp s ⟨aa, ab, ac, ad⟩ fv last) := HLr.out.keep k1 id
      have hl2 := hl1.set1 6 (.slice (some ⟨gf, 0, none⟩) s cap) (by simp)
      have v6 := hl1.cell (j := 6) rfl
      have f6 := hl1.fz (j := 6) (show 6 < 8 by decide)
      obtain ⟨w2, hw2⟩ : ∃ y, y = w1.setCell ⟨g, 6, none⟩ (.slice (some ⟨gf, 0, none⟩) s cap) := ⟨_, rfl⟩
      rw [← hw2] at hl2
      have HL2 : Hid (Lv w2 g (walC bp s ⟨aa, ab, ac, ad⟩ (.slice (some ⟨gf, 0, none⟩) s cap) last)) := hl2
      have k12 : Kp (fun x => x = g) w1 w2 := by rw [hw2]; exact kp_set
      have HGf : Hid (w.heap.size ≤ gf ∧ Free l 0 s) := ⟨by have := HK.out.size; omega, fr1⟩
      have HO2 : Hid (w2.ownsRow 0 3 1 (.slice (some ⟨gf, 0, none⟩) s cap) s (nls l)) := ownsRow_keep ow1 k12 (fun g' e e2 => by have e' : some gf = some g' := e; injection e' with e'; have := HG.out.1; have := HGf.out.1; omega)
      have HK2 : Hid (Kp (fun x => x = g) w w2) := ((HK.out.trans k1 (fun _ _ e => e)).mono (fun _ _ e => e.elim)).trans k12 (fun _ _ e => e)
      have HP2 : Hid (Pt w2 bp d m i q dur T) := HP.out.keep HK2.out HG.out.2.2.2.1 (fun e => HG.out.2.1 e.symm) (fun e => HG.out.2.2.1 e.symm)
      have HTn : Hid (Calls Tryz.prog 162 #[.pointer (some ⟨g, 0, none⟩), headV 1 1 0 1] w2 fun e9 w' => e9 = .returned .nilIface ∧ Kp (fun x => x = d ∨ x = m ∨ x = g) w2 w' ∧ Pt w' bp d m i 0 (wrHead dur T i 1 (hdB 1 1 0 1)) (fun _ => none) ∧ Lv w' g (walC bp s ⟨1, 1, 0, 1⟩ (.slice (some ⟨gf, 0, none⟩) s cap) last)) :=
        turn_ok HP2.out HG.out.2.2.2.2.2.2 (by have := HN.out; omega) s _ _ last HL2.out HG.out.2.1 HG.out.2.2.1 HG.out.2.2.2.1 1 1 0 1 (by decide) (by decide) (by decide) (by decide) (fun j hj => HK2.out.cellv (HT.out j hj) (fun e => HGt.out e.symm))
      clear hl1 hl2 k1 ow1 fr1 hgf k12 HL2
      go_wp2_with fail
      rw [← hw2]
      clear hw2 v6 f6
      refine HTn.out.mono ?_
      rintro e9 w3 ⟨rfl, k3, p3, l3⟩
      have HF3 : Hid (Kp (fun x => x = d ∨ x = m ∨ x = g) w w3 ∧ Pt w3 bp d m i 0 (wrHead dur T i 1 (hdB 1 1 0 1)) (fun _ => none) ∧ Lv w3 g (walC bp s ⟨1, 1, 0, 1⟩ (.slice (some ⟨gf, 0, none⟩) s cap) last) ∧ w3.ownsRow 0 3 1 (.slice (some ⟨gf, 0, none⟩) s cap) s (nls l)) :=
        ⟨(HK2.out.mono (fun _ _ e => Or.inr (Or.inr e))).trans k3 (fun _ _ e => e), p3, l3, ownsRow_keep HO2.out k3 (fun g' e e2 => by have e' : some gf = some g' := e; injection e' with e'; have := HG.out; have := HGf.out.1; omega)⟩
      clear k3 p3 l3 HTn
      go_wp2
      go_ret
      exact ⟨rfl, HF3.out.1, HF3.out.2.1, gf, cap, l, HGf.out.1, HF3.out.2.2.1, HF3.out.2.2.2, HGf.out.2⟩
theorem hf_nou : ∀ k, hfW (nouW k) = 0
  | 0 => rfl
  | k + 1 => by
    rw [show nouW (k + 1) = nouW k ++ [0] from List.replicate_succ', hfW_snoc, hf_nou k]
theorem numAt_nou (o : Nat) : numAt (nouW 64) o = 0 := by
  unfold numAt nouW
  rw [List.drop_replicate, List.take_replicate]
  rw [hf_nou]
  rfl
theorem newH_nou {dur : List Nat} {T : Nat → Option (List Nat)} {s : Int} (h : ∀ i, i < 2 → nowOf dur T i = nouW 64) : newH dur T s 2 = ⟨0, 0, 0, 0⟩ := by
  have h1 : ∀ i A, i < 2 → stepH dur T s A i = A := fun i A hi => by
    unfold stepH okH rightH sayH
    rw [h i hi, numAt_nou, numAt_nou, numAt_nou, numAt_nou]
    rfl
  show stepH dur T s (stepH dur T s ⟨0, 0, 0, 0⟩ 0) 1 = _
  rw [h1 0 _ (by omega), h1 1 _ (by omega)]

set_option maxRecDepth 100000 in
set_option maxHeartbeats 1600000 in
theorem openNew_ok {w : World} {g bp d m n q s : Nat} {dur : List Nat} {T : Nat → Option (List Nat)} (h : Pt w bp d m n q dur T) (hq : (q : Int) < 9223372036854775807) (hs : n = 2 + s) (hall : ∀ i, i < n → nowOf dur T i = nouW 64) (A : H4) (fv : Value) (last : Int) (hl : Lv w g (walC bp s A fv last)) (hgd : g ≠ d) (hgm : g ≠ m) (hgb : bp ≠ g) (hgt : g ≠ 0) (ht : Turns w) :
    Calls Tryz.prog 101 #[.pointer (some ⟨g, 0, none⟩)] w fun e9 w' => e9 = .returned (.tuple #[.slice none 0 0, .nilIface]) ∧ Kp (fun x => x = d ∨ x = m ∨ x = g) w w' ∧ Pt w' bp d m n 0 (wrHead dur T n 1 (hdB 1 1 0 1)) (fun _ => none) ∧ ∃ gf cap l, w.heap.size ≤ gf ∧ Lv w' g (walC bp s ⟨1, 1, 0, 1⟩ (.slice (some ⟨gf, 0, none⟩) s cap) last) ∧ w'.ownsRow 0 3 1 (.slice (some ⟨gf, 0, none⟩) s cap) s (nls l) ∧ Free l 0 s := by
  have HW : Hid (Calls Tryz.prog 140 #[ringV bp s] w fun e w' => e = .returned (.tuple #[headV 0 0 0 0, flt 0 70]) ∧ Kp (fun _ => False) w w') := (newest_ok h s (by have := h.n2; omega) (by omega) ht).mono fun e w' ⟨he, hk⟩ => ⟨by
    rw [newH_nou (fun i hi => hall i (by omega))] at he
    unfold NewRes at he
    rw [if_pos rfl] at he
    exact he, hk⟩
  have HB : Hid (∀ u, Kp (fun _ => False) w u → Calls Tryz.prog 141 #[.pointer (some ⟨g, 0, none⟩)] u fun e9 w' => e9 = .returned .nilIface ∧ Kp (fun x => x = d ∨ x = m ∨ x = g) u w' ∧ Pt w' bp d m n 0 (wrHead dur T n 1 (hdB 1 1 0 1)) (fun _ => none) ∧ ∃ gf cap l, u.heap.size ≤ gf ∧ Lv w' g (walC bp s ⟨1, 1, 0, 1⟩ (.slice (some ⟨gf, 0, none⟩) s cap) last) ∧ w'.ownsRow 0 3 1 (.slice (some ⟨gf, 0, none⟩) s cap) s (nls l) ∧ Free l 0 s) := fun u k => begin_ok (h.keep0 k) hq hs hall A fv last (hl.keep k id) hgd hgm hgb hgt (fun j hj => k.cellv (ht j hj) id)
  have HI : Hid (∀ u, Calls Tryz.prog 57 #[flt 0 70, eno 70] u fun e w' => e = .returned (.bool true) ∧ Kp (fun _ => False) u w') := fun u => is_flt 0 70 70 u
  obtain ⟨aa, ab, ac, ad⟩ := A
  have v0 := hl.cell (j := 0) rfl
  have v1 := hl.cell (j := 1) rfl
  clear h hl ht hall hgd hgm hgb hq hs hgt
  go_enter Tryz.func101, Tryz.ntmps101
  go_wp2_with fail
  refine HW.out.mono ?_
  rintro e9 w1 ⟨rfl, k1⟩
  have HK1 : Hid (Kp (fun _ => False) w w1) := k1
  clear k1 HW v0 v1
  go_upto_region 2 with fail
  obtain ⟨w2, hw2⟩ : ∃ y, y = w1.alloc (.cells #[.int .i64 0, .int .i64 0, .int .i64 0, .int .i64 0] 155) := ⟨_, rfl⟩
  have HK2 : Hid (Kp (fun _ => False) w w2) := HK1.out.trans (S' := fun _ => False) (by rw [hw2]; exact (Kp.refl _ _).alloc _) (fun _ _ e => e)
  try rw [← hw2]
  clear hw2
  go_wp2_with fail
  refine (HI.out _).mono ?_
  rintro e9 w3 ⟨rfl, k3⟩
  have HK3 : Hid (Kp (fun _ => False) w w3) := HK2.out.trans k3 (fun _ _ e => e)
  clear k3 HI
  go_wp2_with fail
  refine (HB.out w3 HK3.out).mono ?_
  rintro e9 w4 ⟨rfl, k4, p4, gf, cap, l, hgf, l4, o4, f4⟩
  have HF : Hid (Kp (fun x => x = d ∨ x = m ∨ x = g) w w4 ∧ Pt w4 bp d m n 0 (wrHead dur T n 1 (hdB 1 1 0 1)) (fun _ => none) ∧ Lv w4 g (walC bp s ⟨1, 1, 0, 1⟩ (.slice (some ⟨gf, 0, none⟩) s cap) last) ∧ w4.ownsRow 0 3 1 (.slice (some ⟨gf, 0, none⟩) s cap) s (nls l) ∧ Free l 0 s ∧ w.heap.size ≤ gf) := ⟨(HK3.out.mono (fun _ _ e => e.elim)).trans k4 (fun _ _ e => e), p4, l4, o4, f4, by have := HK3.out.size; omega⟩
  clear k4 p4 hgf l4 o4 f4 HB
  go_wp2
  go_ret2
  exact ⟨rfl, HF.out.1, HF.out.2.1, gf, cap, l, HF.out.2.2.2.2.2, HF.out.2.2.1, HF.out.2.2.2.1, HF.out.2.2.2.2.1⟩
end Go.Proofs.YtmooddbhcccicaaGreatDoor

/- Open of a new plate. -/
namespace Go.Proofs.YtmooddbhcccicaaGreatDoor
set_option linter.unusedVariables false
set_option linter.unusedSimpArgs false
open Go.RowKit Go.Deep

/-- the log at block g, whose free places e, e + 1 .. (k of them) stand at block gf -/
structure Wl (w : World) (g bp s gf : Nat) (A : H4) (last : Int) (e k : Nat) : Prop where
  hp : ∃ cap l, Lv w g (walC bp s A (.slice (some ⟨gf, 0, none⟩) k cap) last) ∧ w.ownsRow 0 3 1 (.slice (some ⟨gf, 0, none⟩) k cap) k (nls l) ∧ Free l e k
  ne : gf ≠ g
theorem Wl.keep {S : Nat → Prop} {w w' : World} {g bp s gf : Nat} {A : H4} {last : Int} {e k : Nat} (h : Wl w g bp s gf A last e k) (kp : Kp S w w') (hg : ¬ S g) (hf : ¬ S gf) : Wl w' g bp s gf A last e k := by
  obtain ⟨cap, l, h1, h2, h3⟩ := h.hp
  exact ⟨⟨cap, l, h1.keep kp hg, ownsRow_keep h2 kp (fun g' e' => by have e2 : some gf = some g' := e'; injection e2 with e2; subst e2; exact hf), h3⟩, h.ne⟩
theorem Wl.gl {w : World} {g bp s gf : Nat} {A : H4} {last : Int} {e k : Nat} (h : Wl w g bp s gf A last e k) : g < w.heap.size := by
  obtain ⟨cap, l, h1, h2, h3⟩ := h.hp
  exact h1.lt (by simp)
theorem Wl.fl {w : World} {g bp s gf : Nat} {A : H4} {last : Int} {e k : Nat} (h : Wl w g bp s gf A last e k) : gf < w.heap.size := by
  obtain ⟨cap, l, h1, h2, h3⟩ := h.hp
  exact (ownBlock_lt h2 (g := gf) rfl).2

set_option maxRecDepth 100000 in
set_option maxHeartbeats 1600000 in
theorem OpenNew_ok {w : World} {bp d m n q s : Nat} {dur : List Nat} {T : Nat → Option (List Nat)} (h : Pt w bp d m n q dur T) (hq : (q : Int) < 9223372036854775807) (hs : n = 2 + s) (h6 : 6 ≤ n) (hall : ∀ i, i < n → nowOf dur T i = nouW 64) (ht : Turns w) :
    Calls Tryz.prog 55 #[.pointer (some ⟨bp, 0, none⟩)] w fun e9 w' => ∃ g gf, e9 = .returned (.tuple #[.pointer (some ⟨g, 0, none⟩), .slice none 0 0, .int .i64 0]) ∧ Kp (fun x => x = d ∨ x = m) w w' ∧ Pt w' bp d m n 0 (wrHead dur T n 1 (hdB 1 1 0 1)) (fun _ => none) ∧ w.heap.size ≤ g ∧ w.heap.size ≤ gf ∧ Wl w' g bp s gf ⟨1, 1, 0, 1⟩ 0 0 s := by
  have HU : Hid (Calls _ _ _ w _) := unfit_ok h h6
  have HS : Hid (Calls _ _ _ w _) := sectors_ok h
  obtain ⟨g, hg⟩ : ∃ g, g = w.heap.size := ⟨_, rfl⟩
  obtain ⟨w0, hw0⟩ : ∃ y, y = w.alloc (.cells #[.pointer (some ⟨bp, 0, none⟩), .int .i64 (s : Int), .int .i64 0, .int .i64 0, .int .i64 0, .int .i64 0, .slice none 0 0, .int .i64 0] 158) := ⟨_, rfl⟩
  have HK0 : Hid (Kp (fun _ => False) w w0) := by rw [hw0]; exact (Kp.refl _ _).alloc _
  have HL0 : Lv w0 g (walC bp s ⟨0, 0, 0, 0⟩ (.slice none 0 0) 0) := by rw [hw0, hg]; exact Lv.new _ _ _
  have h1 := h.lt
  have h2 := h.row.lt
  have h3 := h.mp.lt
  have h4 := World.block_lt_of_cell? _ _ (ht 0 (by decide))
  have h4' : (0 : Nat) < w.heap.size := h4
  have HO : Hid (Calls Tryz.prog 101 #[.pointer (some ⟨g, 0, none⟩)] w0 _) := openNew_ok (h.keep0 HK0.out) hq hs hall _ _ 0 HL0 (by omega) (by omega) (by omega) (by omega) (fun j hj => HK0.out.cellv (ht j hj) id)
  have HG : Hid (g = w.heap.size ∧ d < w.heap.size ∧ m < w.heap.size ∧ w0.heap.size = w.heap.size + 1) := ⟨hg, h2, h3, by rw [hw0]; simp⟩
  have hwn : wrap64 ((n : Int) - 2) = (s : Int) := by have := h.n2; unfold wrap64; omega
  have hnn := nil_neq
  clear h ht hall hq hs h6 HL0 h1 h2 h3 h4 h4'
  go_enter Tryz.func55, Tryz.ntmps55
  go_wp2_with fail
  refine HU.out.mono ?_
  rintro e9 w9 ⟨rfl, hw9⟩
  have hw8 := hw9.symm
  subst hw8
  clear hw9 HU
  go_wp2_with fail
  refine HS.out.mono ?_
  rintro e9 w9 ⟨rfl, hw9⟩
  have hw8 := hw9.symm
  subst hw8
  clear hw9 HS
  go_wp2_with fail
  rw [← hw0, ← hg]
  clear hw0 hg
  refine HO.out.mono ?_
  rintro e9 w1 ⟨rfl, k1, p1, gf, cap, l, hgf, l1, o1, f1⟩
  have HF : Hid (Kp (fun x => x = d ∨ x = m) w w1 ∧ Pt w1 bp d m n 0 (wrHead dur T n 1 (hdB 1 1 0 1)) (fun _ => none) ∧ w.heap.size ≤ g ∧ w.heap.size ≤ gf ∧ Wl w1 g bp s gf ⟨1, 1, 0, 1⟩ 0 0 s) :=
    ⟨(HK0.out.mono (fun _ _ e => e.elim)).trans k1 (fun b hb e => by have := HG.out; omega), p1, by have := HG.out; omega, by have := HG.out; omega, ⟨⟨cap, l, l1, o1, f1⟩, by have := HG.out; omega⟩⟩
  clear k1 p1 hgf l1 o1 f1 HO
  go_wp2
  go_ret3
  exact ⟨g, gf, rfl, HF.out⟩
end Go.Proofs.YtmooddbhcccicaaGreatDoor

/- Texts of this proof, joined: Au, Av. -/
/- slices.Chunk of a record: the iterator. -/
namespace Go.Proofs.YtmooddbhcccicaaGreatDoor
set_option linter.unusedVariables false
set_option linter.unusedSimpArgs false
open Go.RowKit Go.Deep Go.Maps Go.Shelf

theorem slice3W (g o n c l r : Nat) (hl : l < r) (hr : r ≤ c) (w : World) :
    (Instr.slice 34 (.slice (some ⟨g, o, none⟩) n c) (some (.int .i64 (l : Int))) (some (.int .i64 (r : Int))) (some (.int .i64 (r : Int)))).run Tryz.prog w = .ok (.slice (some ⟨g, o + l, none⟩) (r - l) (r - l)) w := by
  obtain ⟨i, hi, hz⟩ := Option.map_eq_some_iff.1 info5
  simp only [Prod.mk.injEq] at hz
  obtain ⟨hz, hs, hb⟩ := hz
  have h2 : (0 : Int) ≤ r ∧ (r : Int) ≤ (c : Int) := by omega
  have h3 : ¬ r = l := by omega
  have h4 : l ≤ r := by omega
  simp [Instr.slice, Instr.sliceBounds, Instr.sliceBound, asIntOf, run_underlying Tryz.underlying34, sizeOf, typeInfo, hi, hs, hr, h3, h4, Addr.add]
/-- how many bytes the j-th piece of n has -/
def chL (n j : Nat) : Nat := min 40 (n - 40 * j)
def chV (b o n j : Nat) : Value := .slice (some ⟨b, o + 40 * j, none⟩) (chL n j) (chL n j)
theorem wr_add {i e r : Nat} (h : r = i + e) (hb : r ≤ 100000) : wrap64 ((i : Int) + (e : Int)) = (r : Int) ∧ IntKind.i64.wrap ((i : Int) + (e : Int)) = (r : Int) := by
  refine ⟨by unfold wrap64; omega, by rw [IntKind.wrap_i64]; omega⟩
theorem wr_40 {i k : Nat} (h : i = 40 * k) (hb : i ≤ 100000) : wrap64 ((i : Int) + 40) = ((40 * (k + 1) : Nat) : Int) := by unfold wrap64; omega
theorem min_chunk {e m : Nat} (h : e = min 40 m) : min (40 : Int) (m : Int) = (e : Int) := by omega
def vnumW : Value → Int
  | .int _ z => z
  | _ => 0

set_option maxRecDepth 100000 in
set_option maxHeartbeats 2000000 in
/-- the iterator over a record's parts, for each loop whose body keeps what lies outside S -/
theorem chunk1 (F : Fence) (n : Nat) (h7 : F.fn 226) (hro : F.round = none) (hn : 1 ≤ n) (l Bs Bn len cap b o : Nat) (K : Nat) (S : Nat → Prop) (hK : Hid (K = (len + 39) / 40 ∧ len ≤ 2000 ∧ len ≤ cap)) (J Jx : List Nat → World → Prop) (Bj : Nat) (hJ : AbidesFrom Bj J)
    (hY : ∀ pre x W, J pre W → pre.length < K → YieldAt F (n - 1) Tryz.prog l #[chV b o len x] W fun e W' =>
      (e = .returned (.bool true) ∧ J (pre ++ [x]) W' ∧ Kp S W W') ∨ (e = .returned (.bool false) ∧ Jx (pre ++ [x]) W'))
    (W : World) (hBs : W.cell? ⟨Bs, 0, none⟩ = some (.slice (some ⟨b, o, none⟩) len cap)) (hBn : W.cell? ⟨Bn, 0, none⟩ = some (.int .i64 40)) (hlt : ¬ S Bs ∧ ¬ S Bn) (h0 : J [] W) :
    CallsIn F n Tryz.prog 226 #[.func (.yield l) #[] #[], .pointer (some ⟨Bs, 0, none⟩), .pointer (some ⟨Bn, 0, none⟩)] W fun e W' => (∃ v, e = .returned v) ∧ ((∃ ys, ys = List.range K ∧ J ys W') ∨ (∃ pre : List Nat, True ∧ Jx pre W')) := by
  refine callsIn_of_wp Tryz.func226 rfl h7 ?_ hro
  simp only [Tryz.ntmps226, List.size_toArray, List.length_cons, List.length_nil, Nat.reduceAdd, Nat.reduceSub, Array.replicate_succ, Array.replicate_zero, List.push_toArray, List.append_toArray, List.nil_append, List.cons_append]
  gi_wp2
  gi_loopw [4] (fun i wr => ∃ k : Nat, k ≤ K ∧ i = .int .i64 ((40 * k : Nat) : Int) ∧ J (List.range k) wr ∧ Kp S W wr)
    (fun i _ => 2040 - (vnumW i).toNat)
  case atStart => exact ⟨0, Nat.zero_le _, rfl, by simpa using h0, Kp.refl _ _⟩
  case round =>
    obtain ⟨k, hk, rfl, hJs, hnx⟩ := hrel
    have cs : wr.cell? ⟨Bs, 0, none⟩ = some (.slice (some ⟨b, o, none⟩) len cap) := hnx.cellv hBs hlt.1
    have cn : wr.cell? ⟨Bn, 0, none⟩ = some (.int .i64 40) := hnx.cellv hBn hlt.2
    obtain ⟨i, hi⟩ : ∃ i, i = 40 * k := ⟨_, rfl⟩
    rw [← hi]
    by_cases hlt3 : k < K
    · have hlt2 : (i : Int) < (len : Int) := by have := hK.out; omega
      have HKk := hK.out
      obtain ⟨m, hm⟩ : ∃ m, m = len - i := ⟨_, rfl⟩
      obtain ⟨c9, hc9⟩ : ∃ c9, c9 = cap - i := ⟨_, rfl⟩
      have hsl : ∀ w, (Instr.slice 34 (.slice (some ⟨b, o, none⟩) len cap) (some (.int .i64 (i : Int))) none none).run Tryz.prog w = .ok (.slice (some ⟨b, o + i, none⟩) m c9) w := fun w => by
        rw [hm, hc9]
        exact sliceL b o len cap i (by omega) (by omega) w
      obtain ⟨e, he⟩ : ∃ e, e = chL len k := ⟨_, rfl⟩
      have hee : e = min 40 m := by rw [he, hm, hi]; rfl
      obtain ⟨r, hr⟩ : ∃ r, r = i + e := ⟨_, rfl⟩
      have hs3 : ∀ w, (Instr.slice 34 (.slice (some ⟨b, o, none⟩) len cap) (some (.int .i64 (i : Int))) (some (.int .i64 (r : Int))) (some (.int .i64 (r : Int)))).run Tryz.prog w = .ok (chV b o len k) w := fun w => by
        have := slice3W b o len cap i r (by omega) (by omega) w
        rw [this]
        unfold chV
        rw [← he, hi, show r - 40 * k = e by omega]
      have hJd : J (List.range k) wr.drew := hJ _ _ _ none hJs ⟨rfl, rfl, rfl, Nat.le_refl _, fun _ _ _ => rfl⟩ (fun r e => by cases e)
      have hnd : Kp S W wr.drew := hnx.drew
      have hYk := hY _ k wr.drew hJd (by rw [List.length_range]; exact hlt3)
      have HNx : Hid (wrap64 ((i : Int) + 40) = ((40 * (k + 1) : Nat) : Int) ∧ i < 2000 ∧ i = 40 * k) := ⟨wr_40 hi (by omega), by omega, hi⟩
      have HT : Hid (List.range (k + 1) = List.range k ++ [k]) := List.range_succ
      obtain ⟨cv, hcv⟩ : ∃ cv, cv = chV b o len k := ⟨_, rfl⟩
      rw [← hcv] at hs3 hYk
      have hmin := min_chunk hee
      obtain ⟨hwr, hwr2⟩ := wr_add hr (by omega)
      clear hm hc9 he hee hr hi HKk hcv hY
      obtain ⟨fn, tmps, assign, body, hy, hR⟩ := hYk
      gi_wp2
      gi_region
      all_goals
        gi_wp2
        refine hR.mono ?_
        rintro e9 W3 (⟨rfl, hJ3, hk3⟩ | ⟨rfl, hJx3⟩)
        · have cn3 : W3.cell? ⟨Bn, 0, none⟩ = some (.int .i64 40) := (hnd.trans hk3 (fun _ _ e => e)).cellv hBn hlt.2
          gi_wp2
          go_roundw
          case rel => exact ⟨k + 1, by omega, by first | rw [HNx.out.1] | simp, by rw [HT.out]; exact hJ3, hnd.trans hk3 (fun _ _ e => e)⟩
          case measure =>
            clear hwr hwr2 hmin
            rw [HNx.out.1]
            show 2040 - (((40 * (k + 1) : Nat) : Int)).toNat < 2040 - ((i : Nat) : Int).toNat
            rw [Int.toNat_natCast, Int.toNat_natCast]
            have := HNx.out.2
            omega
        · gi_wp2
          refine bodyPost_ret (results_none rfl _ _ _) rfl ?_
          exact ⟨⟨_, rfl⟩, .inr ⟨_, trivial, hJx3⟩⟩
    · have hlt2 : ¬ ((i : Int) < (len : Int)) := by have := hK.out; omega
      obtain rfl : k = K := by omega
      clear hY
      gi_wp2
      go_end0
      exact ⟨⟨_, rfl⟩, .inl hJs⟩
theorem chunk_stops (F : Fence) (n : Nat) (h7 : F.fn 226) (hro : F.round = none) (hn : 1 ≤ n) (Bs Bn len cap b o K : Nat) (S : Nat → Prop) (hK : Hid (K = (len + 39) / 40 ∧ len ≤ 2000 ∧ len ≤ cap)) (w : World) (hBs : Bs < w.heap.size) (hBn : Bn < w.heap.size) (hlt : ¬ S Bs ∧ ¬ S Bn)
    (hc : w.cell? ⟨Bs, 0, none⟩ = some (.slice (some ⟨b, o, none⟩) len cap)) (hc2 : w.cell? ⟨Bn, 0, none⟩ = some (.int .i64 40)) :
    SeqStopsK F n Tryz.prog 226 #[.pointer (some ⟨Bs, 0, none⟩), .pointer (some ⟨Bn, 0, none⟩)] (fun x : Nat => #[chV b o len x]) (Kp S) (fun ys => ys = List.range K) (fun _ => True) K w := fun l J Jx W hW hJ _ hY h0 =>
  chunk1 F n h7 hro hn l Bs Bn len cap b o K S hK J Jx _ hJ hY W ((hW.cell (p := ⟨Bs, 0, none⟩) hBs).trans hc) ((hW.cell (p := ⟨Bn, 0, none⟩) hBn).trans hc2) hlt h0
end Go.Proofs.YtmooddbhcccicaaGreatDoor

/- A record's pieces. -/
namespace Go.Proofs.YtmooddbhcccicaaGreatDoor
set_option linter.unusedVariables false
set_option linter.unusedSimpArgs false
open Go.RowKit Go.Deep Go.Maps Go.Shelf

set_option maxRecDepth 100000 in
theorem chunkF_ok (b o len cap : Nat) (w : World) : Calls Tryz.prog 204 #[.slice (some ⟨b, o, none⟩) len cap, .int .i64 40] w fun e w' => e = .returned (.func (.func 226) #[] #[.pointer (some ⟨w.heap.size, 0, none⟩), .pointer (some ⟨w.heap.size + 1, 0, none⟩)]) ∧ w' = (w.alloc (.cells #[.slice (some ⟨b, o, none⟩) len cap] 34)).alloc (.cells #[.int .i64 40] 3) := by
  go_enter Tryz.func204, Tryz.ntmps204
  go_wp2
  go_ret
  exact ⟨rfl, rfl⟩
/-- a piece as it is first laid -/
def rawC (z : Int) (b o len j : Nat) : List Value := [.int .i64 z, chV b o len j, .bool false, .bool false]
theorem infoPc : (Tryz.prog.info? 232).map (fun i => (i.zero.map (·.cells.size), i.size, i.bytes)) = some (some 4, 4, 40) := by kernel_rfl
theorem infoPc2 : ∃ i z, Tryz.prog.info? 232 = some i ∧ i.zero = some z ∧ i.size = 4 ∧ i.bytes = 40 ∧ z.cells.size = 4 := by
  obtain ⟨i, hi, he⟩ := Option.map_eq_some_iff.1 infoPc
  simp only [Prod.mk.injEq] at he
  obtain ⟨h1, h2, h3⟩ := he
  obtain ⟨z, hz, h4⟩ := Option.map_eq_some_iff.1 h1
  exact ⟨i, z, hi, hz, h2, h3, h4⟩

theorem fm_get (f : Nat → List Value) (hf : ∀ j, (f j).length = 4) : ∀ (l : List Nat) (j r : Nat) (h : j < l.length), r < 4 → (l.flatMap f)[j * 4 + r]? = (f l[j])[r]?
  | [], j, r, h, _ => absurd h (Nat.not_lt_zero _)
  | a :: l, 0, r, h, hr => by
    rw [List.flatMap_cons, List.getElem?_append_left (by rw [hf]; omega), Nat.zero_mul, Nat.zero_add]
    rfl
  | a :: l, j + 1, r, h, hr => by
    rw [List.flatMap_cons, List.getElem?_append_right (by rw [hf]; omega), hf, show (j + 1) * 4 + r - 4 = j * 4 + r by omega]
    exact fm_get f hf l j r (by simpa using h) hr
theorem fm_len (f : Nat → List Value) (hf : ∀ j, (f j).length = 4) : ∀ (l : List Nat), (l.flatMap f).length = l.length * 4
  | [] => rfl
  | a :: l => by rw [List.flatMap_cons, List.length_append, hf, fm_len f hf l, List.length_cons]; omega
/-- the pieces' cells -/
def pcsC (z : Int) (b o len K : Nat) : List Value := (((List.range K).flatMap (rawC z b o len)).set 2 (.bool true)).set ((K - 1) * 4 + 3) (.bool true)

set_option maxRecDepth 100000 in
set_option maxHeartbeats 2000000 in
theorem piecesA (z : Int) (b o len cap K : Nat) (hK : Hid (K = (len + 39) / 40 ∧ len ≤ 2000 ∧ len ≤ cap)) (h1 : Hid (1 ≤ len)) (w : World) :
    CallsIn Fence.wide 4 Tryz.prog 165 #[.int .i64 z, .slice (some ⟨b, o, none⟩) len cap] w fun e w' => ∃ v, e = .returned v ∧ w'.ownsRow w.heap.size 232 4 v K (pcsC z b o len K) ∧ Below w.heap.size w w' := by
  have hC : Hid (∀ u, CallsIn Fence.wide 3 Tryz.prog 204 #[.slice (some ⟨b, o, none⟩) len cap, .int .i64 40] u fun e w' => e = .returned (.func (.func 226) #[] #[.pointer (some ⟨u.heap.size, 0, none⟩), .pointer (some ⟨u.heap.size + 1, 0, none⟩)]) ∧ w' = (u.alloc (.cells #[.slice (some ⟨b, o, none⟩) len cap] 34)).alloc (.cells #[.int .i64 40] 3)) := fun u => callsIn_wide.2 (chunkF_ok b o len cap u)
  refine callsIn_of_wp_marks Tryz.func165 rfl trivial ?_ rfl
  simp only [Tryz.ntmps165, List.size_toArray, List.length_cons, List.length_nil, Nat.reduceAdd, Nat.reduceSub, Array.replicate_succ, Array.replicate_zero, List.push_toArray, List.append_toArray, List.nil_append, List.cons_append]
  obtain ⟨B2, hB2⟩ : ∃ x, x = w.heap.size := ⟨_, rfl⟩
  obtain ⟨B5, hB5⟩ : ∃ x, x = w.heap.size + 1 := ⟨_, rfl⟩
  obtain ⟨Bs, hBs⟩ : ∃ x, x = w.heap.size + 1 + 1 := ⟨_, rfl⟩
  obtain ⟨Bn, hBn⟩ : ∃ x, x = w.heap.size + 1 + 1 + 1 := ⟨_, rfl⟩
  obtain ⟨wA, hwA⟩ : ∃ y, y = w.alloc (.cells #[.int .i64 z] 3) := ⟨_, rfl⟩
  obtain ⟨wB, hwB⟩ : ∃ y, y = wA.alloc (.cells #[.slice none 0 0] 229) := ⟨_, rfl⟩
  obtain ⟨wC, hwC⟩ : ∃ y, y = wB.alloc (.cells #[.slice (some ⟨b, o, none⟩) len cap] 34) := ⟨_, rfl⟩
  obtain ⟨wD, hwD⟩ : ∃ y, y = wC.alloc (.cells #[.int .i64 40] 3) := ⟨_, rfl⟩
  have zA : wA.heap.size = w.heap.size + 1 := by rw [hwA]; simp
  have zB : wB.heap.size = w.heap.size + 1 + 1 := by rw [hwB]; simp [zA]
  have zC : wC.heap.size = w.heap.size + 1 + 1 + 1 := by rw [hwC]; simp [zB]
  have zD : wD.heap.size = w.heap.size + 1 + 1 + 1 + 1 := by rw [hwD]; simp [zC]
  have b2 : Boxed wD B2 3 (.int .i64 z) := by
    have h1 : Boxed wA B2 3 (.int .i64 z) := by rw [hwA, hB2]; exact Boxed.new w _ _
    rw [hwD, hwC, hwB]
    exact ((h1.alloc _).alloc _).alloc _
  have b5 : Boxed wD B5 229 (.slice none 0 0) := by
    have h1 : Boxed wB B5 229 (.slice none 0 0) := by rw [hwB, hB5, ← zA]; exact Boxed.new wA _ _
    rw [hwD, hwC]
    exact (h1.alloc _).alloc _
  have cs : wD.cell? ⟨Bs, 0, none⟩ = some (.slice (some ⟨b, o, none⟩) len cap) := by
    have h1 : Boxed wC Bs 34 (.slice (some ⟨b, o, none⟩) len cap) := by rw [hwC, hBs, ← zB]; exact Boxed.new wB _ _
    rw [hwD]
    exact (h1.alloc _).cell
  have cn : wD.cell? ⟨Bn, 0, none⟩ = some (.int .i64 40) := by
    have h1 : Boxed wD Bn 3 (.int .i64 40) := by rw [hwD, hBn, ← zC]; exact Boxed.new wC _ _
    exact h1.cell
  have hb0 : Below w.heap.size w wD := by
    rw [hwD, hwC, hwB, hwA]
    exact (((((Below.refl _ w).alloc (Nat.le_refl _) _).alloc (by simp) _).alloc (by simp; omega) _).alloc (by simp; omega) _)
  have hseq := chunk_stops Fence.wide 3 trivial rfl (by omega) Bs Bn len cap b o K (fun x => x = B5 ∨ wD.heap.size ≤ x) hK wD (by omega) (by omega) ⟨by omega, by omega⟩ cs cn
  obtain ⟨ti, tz, hi0, hz0, hz1, hz2, hz3⟩ := infoPc2
  have hte : 229 ≠ 232 := by decide
  gi_wp2
  refine ⟨trivial, (hC.out _).mono ?_⟩
  rintro e w1 ⟨rfl, hw1⟩
  subst hw1
  gi_wp2
  rw [← hwA, ← hwB, ← hwC, ← hwD, ← hBn, ← hBs, ← hB5, ← hB2]
  have HD : Hid (w.heap.size ≤ B2 ∧ w.heap.size ≤ B5 ∧ B2 ≠ B5 ∧ B2 < wD.heap.size ∧ B5 < wD.heap.size) := ⟨by omega, by omega, by omega, by omega, by omega⟩
  clear hwA hwB hwC hwD hBn hBs hB5 hB2 zA zB zC zD cs cn hC
  refine wpIn_rangeFunc_ownG rfl (by omega) (gf := 226) (lb := #[.pointer (some ⟨Bs, 0, none⟩), .pointer (some ⟨Bn, 0, none⟩)]) rfl trivial (enters_of Tryz.func226 (by kernel_rfl) rfl)
    hseq (fun h k => h.trans k (fun _ _ e => e)) (fun W l o o' hl hW ho _ => ⟨rfl, rfl, rfl, by simp, fun k hk hn => ?_⟩) (Below.refl _ _) (fun _ => rfl)
    (fun pre W => (((∃ v, Boxed W B5 229 v ∧ W.ownsRow wD.heap.size 232 4 v pre.length (pre.flatMap (rawC z b o len)) ∧ True) ∧ Below w.heap.size w W) ∧ Boxed W B2 3 (.int .i64 z)) ∧ wD.heap.size ≤ W.heap.size)
    (fun _ _ _ => False)
    (OwnFrom.and (OwnFrom.and (OwnFrom.and (Own.from (holdsRow_own wD.heap.size B5 229 232 4 List.length (fun pre => pre.flatMap (rawC z b o len)) (fun _ _ => True)) _) (ownFrom_below ?_ ?_)) ?_) ?_)
    (fun _ _ _ _ _ hs _ _ => hs)
    ⟨⟨⟨⟨_, b5, World.ownsRow_nil _ _ _ _, trivial⟩, hb0⟩, b2⟩, Nat.le_refl _⟩
    (fun x => { tmps := #[.int .i64 z, .slice (some ⟨b, o, none⟩) len cap, .pointer (some ⟨B2, 0, none⟩), undef, .slice none 0 0, .pointer (some ⟨B5, 0, none⟩), chV b o len x, .slice (some ⟨b, o, none⟩) len cap, .func (.func 226) #[] #[.pointer (some ⟨Bs, 0, none⟩), .pointer (some ⟨Bn, 0, none⟩)], chV b o len x, undef, undef, undef, undef, undef, undef, undef, undef, undef, undef, undef, undef, undef, undef, undef, undef], defers := [] }) ?assign ?body ?done ?stop
  case refine_1 =>
    have hkl : k ≠ l := fun e => hn (Or.inr (by omega))
    simp [World.putObj, Array.getElem?_setIfInBounds_ne (Ne.symm hkl)]
  case refine_2 => exact Nat.le_refl _
  case refine_3 => exact hb0.size
  case refine_4 =>
    intro s W W' row hs hg hr
    exact hs.kept hg (fun e' => by
      obtain ⟨o, ho, hc⟩ := (hr B2 e'.symm).2
      rw [show W.heap[B2]? = _ from hs] at ho
      cases ho
      cases hc)
  case refine_5 => exact fun s W W' row hs hg _ => Nat.le_trans hs hg.size
  case assign =>
    intro l x W K hK
    gi_wp2_with gi_round_op_a
    exact hK
  case body =>
    rintro l pre x W ⟨⟨⟨⟨v, hv, hrow, _⟩, hB⟩, hz9⟩, hws⟩ hlen
    have HWs : Hid (wD.heap.size ≤ W.heap.size) := hws
    have hc5 := hv.cell
    have hf5 := hv.frozen
    have hc2 := hz9.cell
    have hBs2 := hB.size
    have hlw : pre.length < 60 := by have := hK.out; omega
    obtain ⟨cl, hcl⟩ : ∃ c, c = chL len x := ⟨_, rfl⟩
    obtain ⟨ox, hox⟩ : ∃ y, y = o + 40 * x := ⟨_, rfl⟩
    have hch : chV b o len x = .slice (some ⟨b, ox, none⟩) cl cl := by unfold chV; rw [hcl, hox]
    have HRaw : Hid (rawC z b o len x = [.int .i64 z, .slice (some ⟨b, ox, none⟩) cl cl, .bool false, .bool false]) := by show _ = _; unfold rawC; rw [hch]
    have HCells : Hid (∀ j u, ([.int .i64 z, .slice (some ⟨b, ox, none⟩) cl cl, .bool false, .bool false] : List Value)[j]? = some u → (W.alloc (.cells #[.int .i64 z, .slice (some ⟨b, ox, none⟩) cl cl, .bool false, .bool false] 232)).cell? ((⟨W.heap.size, 0, none⟩ : Addr).add j) = some u) := fun j u hu => by
      rw [Addr.add_mid, Nat.zero_add]
      exact (Lv.new W _ _).cell hu
    have HOne : Hid (∀ u ∈ ([.int .i64 z, .slice (some ⟨b, ox, none⟩) cl cl, .bool false, .bool false] : List Value), u.oneCell' = true) := fun u hu => by
      simp only [List.mem_cons, List.not_mem_nil, or_false] at hu
      rcases hu with rfl | rfl | rfl | rfl <;> rfl
    have HOwn : Hid ((W.alloc (.cells #[.int .i64 z, .slice (some ⟨b, ox, none⟩) cl cl, .bool false, .bool false] 232)).ownsRow wD.heap.size 232 4 v pre.length (pre.flatMap (rawC z b o len))) := hrow.alloc _
    have HBnd : Hid (pre.length + 1 ≤ maxLen ∧ (pre.length + 1) * 40 ≤ 140737488355328 ∧ wD.heap.size ≤ (W.alloc (.cells #[.int .i64 z, .slice (some ⟨b, ox, none⟩) cl cl, .bool false, .bool false] 232)).heap.size) := ⟨by unfold maxLen; omega, by omega, by
      have : wD.heap.size ≤ W.heap.size := HWs.out
      simp
      omega⟩
    have hrow2 : Hid (W.ownsRow wD.heap.size 232 4 v pre.length (pre.flatMap (rawC z b o len))) := hrow
    rw [hch]
    clear hcl hox hch hrow
    gi_wp2_with (first
      | (gi_at_builtin; refine wpListIn_append_own _ rfl _ _ 229 rfl wD.heap.size 232 ti tz 4 40 Tryz.underlying229 hi0 hz0 hz1 hz2 hz3 (by decide) _ _ _ rfl HOwn.out ⟨W.heap.size, 0, none⟩ 1 1 _ rfl rfl HCells.out HOne.out HBnd.out.1 HBnd.out.2.1 HBnd.out.2.2 ?_; intro v' w3 hown' hg3 hnil3
         obtain ⟨g', cap', rfl⟩ := ownsRow_succ hown'
         have hap := Boxed.appended hv hte (ownsRow_base hrow2.out hb0.size) hBs2 HD.out.2.1 (ownsRow_base hown' hb0.size) hg3
         have hc3 := hap.1.cell
         have hf3 := hap.1.frozen
         go_frame)
      | gi_round_op_a)
    have k2 : Kp (fun bb => v.ownBlock = some bb) (W.alloc (.cells #[.int .i64 z, .slice (some ⟨b, ox, none⟩) cl cl, .bool false, .bool false] 232)) w3 := grownBy_kp hg3
    have k1 : Kp (fun _ => False) W (W.alloc (.cells #[.int .i64 z, .slice (some ⟨b, ox, none⟩) cl cl, .bool false, .bool false] 232)) := (Kp.refl _ _).alloc _
    have k3 : Kp (fun bb => bb = B5) w3 (w3.setCell ⟨B5, 0, none⟩ (.slice (some ⟨g', 0, none⟩) (pre.length + 1) cap')) := kp_set
    have hS : Kp (fun y => y = B5 ∨ wD.heap.size ≤ y) W (w3.setCell ⟨B5, 0, none⟩ (.slice (some ⟨g', 0, none⟩) (pre.length + 1) cap')) := ((k1.mono (fun _ _ e => e.elim)).trans k2 (fun bb hb e => Or.inr (ownBlock_lt hrow2.out e).1)).trans k3 (fun _ _ e => Or.inl e)
    have hgB : wD.heap.size ≤ g' := (ownBlock_lt hown' (g := g') rfl).1
    have own9 : (w3.setCell ⟨B5, 0, none⟩ (.slice (some ⟨g', 0, none⟩) (pre.length + 1) cap')).ownsRow wD.heap.size 232 4 (.slice (some ⟨g', 0, none⟩) (pre.length + 1) cap') (pre.length + 1) (pre.flatMap (rawC z b o len) ++ [.int .i64 z, .slice (some ⟨b, ox, none⟩) cl cl, .bool false, .bool false]) := ownsRow_keep hown' k3 (fun g0 e e2 => by
      have e' : some g' = some g0 := e
      injection e' with e'
      have := HD.out
      omega)
    have hnum : Boxed (w3.setCell ⟨B5, 0, none⟩ (.slice (some ⟨g', 0, none⟩) (pre.length + 1) cap')) B2 3 (.int .i64 z) := by
      unfold Boxed
      rw [hS.block B2 (by have := HD.out; have := HWs.out; omega) (fun e => by have := HD.out; omega)]
      exact hz9
    refine ⟨hap.2.2.2.1.from _, hS, ⟨⟨⟨⟨_, hap.2.1, ?_, trivial⟩, hB.trans hap.2.2.2.2⟩, hnum⟩, Nat.le_trans HWs.out hS.size⟩⟩
    have e1 : (pre ++ [x]).length = pre.length + 1 := by rw [List.length_append]; rfl
    have e2 : (pre ++ [x]).flatMap (rawC z b o len) = pre.flatMap (rawC z b o len) ++ [.int .i64 z, .slice (some ⟨b, ox, none⟩) cl cl, .bool false, .bool false] := by rw [List.flatMap_append, List.flatMap_singleton, HRaw.out]
    rw [e1, e2]
    exact own9
  case done =>
    rintro D ys W hD rfl ⟨⟨⟨⟨v, hv, hrow, _⟩, hB⟩, hz9⟩, hws⟩ hK9
    rw [List.length_range] at hrow
    have hK1 : 1 ≤ K := by have := hK.out; have := h1.out; omega
    have hKb : K ≤ 50 := by have := hK.out; omega
    obtain ⟨g, cp, rfl⟩ : ∃ g cp, v = .slice (some ⟨g, 0, none⟩) K cp := by
      rcases Joins.ownsRow_forms hrow with ⟨e1, e2⟩ | ⟨g, cp, e⟩
      · omega
      · exact ⟨g, cp, e⟩
    have hraw : ∀ j, (rawC z b o len j).length = 4 := fun j => rfl
    have hgD : wD.heap.size ≤ g := (ownBlock_lt hrow (g := g) rfl).1
    have hc3 := hv.cell
    have fz : ∀ j, W.frozen? ⟨g, j, none⟩ = false := fun j => own_frzI hrow j
    obtain ⟨y, hy⟩ : ∃ y, y = K - 1 := ⟨_, rfl⟩
    have ca : W.cell? ⟨g, 2, none⟩ = some (.bool false) := by
      have h2 := hrow.cells (g := g) rfl 2 (.bool false) (by
        have := fm_get (rawC z b o len) hraw (List.range K) 0 2 (by rw [List.length_range]; omega) (by omega)
        rw [Nat.zero_mul, Nat.zero_add] at this
        rw [this]; rfl)
      rw [Addr.add_mid, Nat.zero_add] at h2
      exact h2
    have cb : W.cell? ⟨g, y * 4 + 3, none⟩ = some (.bool false) := by
      have h2 := hrow.cells (g := g) rfl (y * 4 + 3) (.bool false) (by
        have := fm_get (rawC z b o len) hraw (List.range K) y 3 (by rw [List.length_range]; omega) (by omega)
        rw [this]; rfl)
      rw [Addr.add_mid, Nat.zero_add] at h2
      exact h2
    have hne : (⟨g, 2, none⟩ : Addr) ≠ ⟨g, y * 4 + 3, none⟩ := fun e => by injection e with _ e; omega
    have cb2 : (W.setCell ⟨g, 2, none⟩ (.bool true)).cell? ⟨g, y * 4 + 3, none⟩ = some (.bool false) := by rw [World.cell?_setCell_other _ _ _ _ hne]; exact cb
    have hlt0 : (0 : Int) < (K : Int) := by omega
    have hlty : (y : Int) < (K : Int) := by omega
    have HW1 : Hid (wrap64 ((K : Int) - 1) = (y : Int)) := by show _ = _; unfold wrap64; omega
    have HO : Hid (((W.setCell ⟨g, 2, none⟩ (.bool true)).setCell ⟨g, y * 4 + 3, none⟩ (.bool true)).ownsRow wD.heap.size 232 4 (.slice (some ⟨g, 0, none⟩) K cp) K (pcsC z b o len K)) := by
      have o1 := own_setI hrow 2 (.bool true) (by rw [fm_len _ hraw, List.length_range]; omega)
      have o2 := own_setI o1 (y * 4 + 3) (.bool true) (by rw [List.length_set, fm_len _ hraw, List.length_range]; omega)
      show World.ownsRow _ _ _ _ _ _ _
      unfold pcsC
      rw [← hy]
      exact o2
    have hgc : ∃ cur, W.heap[g]? = some (.cells cur 232 (0, 0)) := by
      rcases hrow.2 with ⟨h0, _⟩ | ⟨g', cap', cur, hv', hg', hh, hnn, hcap, hsz, htake⟩
      · cases h0
      · cases hv'
        exact ⟨cur, hh⟩
    have hDg : D ≠ g := fun e => by
      obtain ⟨cur, hh⟩ := hgc
      rw [e, hh] at hK9
      cases hK9
    obtain ⟨WF, hWF⟩ : ∃ X, X = ((W.setCell ⟨g, 2, none⟩ (.bool true)).setCell ⟨g, y * 4 + 3, none⟩ (.bool true)).drew := ⟨_, rfl⟩
    have kF : Kp (fun bb => bb = g) W WF := by rw [hWF]; exact (kp_set.trans kp_set (fun _ _ e => e)).drew
    have HOF : Hid (WF.ownsRow wD.heap.size 232 4 (.slice (some ⟨g, 0, none⟩) K cp) K (pcsC z b o len K)) := by
      show World.ownsRow _ _ _ _ _ _ _
      rw [hWF]
      exact ownsRow_keep HO.out (Kp.refl (fun _ => False) _).drew (fun _ _ => id)
    have HKF : Hid (WF.heap[D]? = some (.deferred (some []))) := by
      show _ = _
      rw [kF.block D (by
        by_cases h : D < W.heap.size
        · exact h
        · rw [Array.getElem?_eq_none (by omega)] at hK9; cases hK9) hDg]
      exact hK9
    have hc6 : WF.cell? ⟨B5, 0, none⟩ = some (.slice (some ⟨g, 0, none⟩) K cp) := kF.cellv hc3 (fun e => by
      have e' : B5 = g := e
      have := HD.out
      omega)
    have HBF : Hid (Below w.heap.size w WF) := hB.trans ⟨kF.os, kF.tape, kF.output, kF.size, fun k hk => kF.block k (by have := hB.size; omega) (fun e => by
      have e' : k = g := e
      have := HD.out
      omega)⟩
    have HDD : Hid (wD.heap.size ≤ D) := hD
    clear cb hrow hv hz9 hne HW1 hgc hDg kF
    rw [hy] at hWF cb2
    clear hy hlty
    have hlty : ((K : Int) - 1) < (K : Int) := by omega
    gi_wp2
    gi_region
    rw [← hWF]
    clear hWF
    gi_wp2
    refine ⟨by simp, .inl ⟨_, _, rfl, run_takeDeferred HKF.out, ?_⟩⟩
    exact ⟨_, results_tmp rfl _ _ _, _, rfl, ownsRow_base (ownsRow_putObj HOF.out _ HKF.out rfl) hb0.size, HBF.out.trans (belowK_b (w := w) (Nat.le_refl _) WF D _ _ (by have := HDD.out; have := hb0.size; omega) HKF.out rfl rfl)⟩
  case stop =>
    rintro D c pre W _ _ h _
    exact h.elim
/-- a record's pieces -/
theorem pieces_ok (z : Int) (b o len cap K : Nat) (hK : Hid (K = (len + 39) / 40 ∧ len ≤ 2000 ∧ len ≤ cap)) (h1 : Hid (1 ≤ len)) (w : World) :
    Calls Tryz.prog 165 #[.int .i64 z, .slice (some ⟨b, o, none⟩) len cap] w fun e w' => ∃ v, e = .returned v ∧ w'.ownsRow w.heap.size 232 4 v K (pcsC z b o len K) ∧ Below w.heap.size w w' := (callsIn_wide (n := 4)).1 (piecesA z b o len cap K hK h1 w)
end Go.Proofs.YtmooddbhcccicaaGreatDoor

/- Texts of this proof, joined: Aw, Ax. -/
/- A record is written: put. -/
namespace Go.Proofs.YtmooddbhcccicaaGreatDoor
set_option linter.unusedVariables false
set_option linter.unusedSimpArgs false
open Go.RowKit Go.Deep

theorem pcs_get {z : Int} {b o len K j : Nat} (hj : j < K) : (pcsC z b o len K)[j * 4 + 0]? = some (.int .i64 z) ∧ (pcsC z b o len K)[j * 4 + 1]? = some (chV b o len j) ∧ (pcsC z b o len K)[j * 4 + 2]? = some (.bool (decide (j = 0))) ∧ (pcsC z b o len K)[j * 4 + 3]? = some (.bool (decide (j = K - 1))) := by
  have hraw : ∀ j, (rawC z b o len j).length = 4 := fun j => rfl
  have hl : ((List.range K).flatMap (rawC z b o len)).length = K * 4 := by rw [fm_len _ hraw, List.length_range]
  have hg : ∀ r, r < 4 → ((List.range K).flatMap (rawC z b o len))[j * 4 + r]? = (rawC z b o len j)[r]? := fun r hr => by
    have := fm_get (rawC z b o len) hraw (List.range K) j r (by rw [List.length_range]; exact hj) hr
    rwa [List.getElem_range] at this
  unfold pcsC
  refine ⟨?_, ?_, ?_, ?_⟩
  · rw [List.getElem?_set_ne (by omega), List.getElem?_set_ne (by omega), hg 0 (by omega)]; rfl
  · rw [List.getElem?_set_ne (by omega), List.getElem?_set_ne (by omega), hg 1 (by omega)]; rfl
  · rw [List.getElem?_set_ne (by omega)]
    by_cases h0 : j = 0
    · subst h0
      rw [show 0 * 4 + 2 = 2 from rfl, List.getElem?_set_self (by omega)]; rfl
    · rw [List.getElem?_set_ne (by omega), hg 2 (by omega), decide_eq_false h0]; rfl
  · by_cases h0 : j = K - 1
    · subst h0
      rw [List.getElem?_set_self (by rw [List.length_set]; omega), decide_eq_true rfl]
    · rw [List.getElem?_set_ne (by omega), List.getElem?_set_ne (by omega), hg 3 (by omega), decide_eq_false h0]; rfl
/-- a record's j-th sector of K -/
def secJ (u : Nat) (ys : List Nat) (K j : Nat) : List Nat := pcB u ((ys.drop (40 * j)).take 40) (decide (j = 0)) (decide (j = K - 1))
/-- what is dirty behind so many sectors of a record, from place e on -/
def wrT (T : Nat → Option (List Nat)) (s e u : Nat) (ys : List Nat) (K : Nat) : Nat → Nat → Option (List Nat)
  | 0 => T
  | j + 1 => fun i => if i = 2 + (e + j) % s then some (secJ u ys K j) else wrT T s e u ys K j i
theorem chunk_rb {w : World} {b o len : Nat} {ys : List Nat} (h : Rb w (some ⟨b, o, none⟩) len ys) {j : Nat} (hj : 40 * j < len) : Rb w (some ⟨b, o + 40 * j, none⟩) (chL len j) ((ys.drop (40 * j)).take 40) ∧ 0 < chL len j ∧ chL len j ≤ 40 := by
  have h1 := h.mid (l := 40 * j) (m := chL len j) (by unfold chL; omega)
  refine ⟨?_, by unfold chL; omega, by unfold chL; omega⟩
  have e : (ys.drop (40 * j)).take (chL len j) = (ys.drop (40 * j)).take 40 := by
    have hl := h.len
    unfold chL
    by_cases h2 : 40 ≤ len - 40 * j
    · rw [Nat.min_eq_left h2]
    · rw [Nat.min_eq_right (by omega), List.take_of_length_le (by rw [List.length_drop]; omega), List.take_of_length_le (by rw [List.length_drop]; omega)]
  rw [e] at h1
  exact h1
/-- a log's free places as a heap -/
theorem Wl.ip {w : World} {g bp s gf : Nat} {A : H4} {last : Int} {e k : Nat} (h : Wl w g bp s gf A last e k) : ∃ cap l, Ip w g 6 gf cap [.pointer (some ⟨bp, 0, none⟩), .int .i64 s, .int .i64 A.a, .int .i64 A.b, .int .i64 A.c, .int .i64 A.d] [.int .i64 last] l ∧ Free l e k := by
  obtain ⟨cap, l, h1, h2, h3⟩ := h.hp
  have hl := h3.len
  exact ⟨cap, l, ⟨by rw [hl]; exact h1, rfl, by rw [hl]; exact h2, h.ne⟩, h3⟩
theorem Wl.of_ip {w : World} {g bp s gf cap : Nat} {A : H4} {last : Int} {e k : Nat} {l : List Nat} (h : Ip w g 6 gf cap [.pointer (some ⟨bp, 0, none⟩), .int .i64 s, .int .i64 A.a, .int .i64 A.b, .int .i64 A.c, .int .i64 A.d] [.int .i64 last] l) (hf : Free l e k) : Wl w g bp s gf A last e k := by
  have hl := hf.len
  refine ⟨⟨cap, l, ?_, ?_, hf⟩, h.ne⟩
  · have := h.lv; rw [hl] at this; exact this
  · have := h.ow; rw [hl] at this; exact this

set_option maxRecDepth 100000 in
set_option maxHeartbeats 3200000 in
theorem put_ok {w : World} {g bp d m n q s gf b o len cap K e k lt : Nat} {dur : List Nat} {T : Nat → Option (List Nat)} {A : H4} {ys : List Nat} (hP : Pt w bp d m n q dur T) (hq : (q : Int) ≤ 9000000000000000000) (hs : n = 2 + s ∧ 1 ≤ s) (hW : Wl w g bp s gf A lt e k) (hKk : K ≤ k) (hK : Hid (K = (len + 39) / 40 ∧ len ≤ 2000 ∧ len ≤ cap)) (h1 : Hid (1 ≤ len)) (hr : Rb w (some ⟨b, o, none⟩) len ys) (hk9 : k ≤ 8192) (he9 : (e : Int) ≤ 900000000000000000) (hl9 : (lt : Int) < 1152921504606846976)
    (hne : g ≠ d ∧ g ≠ m ∧ bp ≠ g ∧ gf ≠ d ∧ gf ≠ m ∧ bp ≠ gf ∧ b ≠ m ∧ b ≠ g ∧ b ≠ gf ∧ g ≠ 0 ∧ gf ≠ 0 ∧ m ≠ 0) (ht : Turns w) :
    Calls Tryz.prog 128 #[.pointer (some ⟨g, 0, none⟩), .slice (some ⟨b, o, none⟩) len cap] w fun e9 w' => e9 = .returned .nilIface ∧ Kp (fun x => x = m ∨ x = g ∨ x = gf) w w' ∧ Pt w' bp d m n (q + K) dur (wrT T s e (lt + 1) ys K K) ∧ Wl w' g bp s gf A ((lt + 1 : Nat) : Int) (e + K) (k - K) := by
  obtain ⟨aa, ab, ac, ad⟩ := A
  obtain ⟨num, hnum⟩ : ∃ num : Int, num = ((lt + 1 : Nat) : Int) := ⟨_, rfl⟩
  have hwl : wrap64 ((lt : Int) + 1) = num := by rw [hnum]; unfold wrap64; omega
  have HPc : Hid (Calls _ _ _ w _) := pieces_ok num b o len cap K hK h1 w
  obtain ⟨cap0, l0, ip0, fr0⟩ := hW.ip
  have v7 : w.cell? ⟨g, 7, none⟩ = some (.int .i64 (lt : Int)) := ip0.lv.cell (j := 7) rfl
  have HP : Hid (Pt w bp d m n q dur T) := hP
  have HWl : Hid (Wl w g bp s gf ⟨aa, ab, ac, ad⟩ lt e k) := hW
  have HR : Hid (Rb w (some ⟨b, o, none⟩) len ys) := hr
  have HT : Hid (Turns w) := ht
  have HNe : Hid (g ≠ d ∧ g ≠ m ∧ bp ≠ g ∧ gf ≠ d ∧ gf ≠ m ∧ bp ≠ gf ∧ b ≠ m ∧ b ≠ g ∧ b ≠ gf ∧ g ≠ 0 ∧ gf ≠ 0 ∧ m ≠ 0) := hne
  have HB : Hid ((q : Int) ≤ 9000000000000000000 ∧ n = 2 + s ∧ 1 ≤ s ∧ K ≤ k ∧ k ≤ 8192 ∧ (e : Int) ≤ 900000000000000000 ∧ g < w.heap.size ∧ gf < w.heap.size ∧ m < w.heap.size ∧ n ≤ 8192) := ⟨hq, hs.1, hs.2, hKk, hk9, he9, hW.gl, hW.fl, hP.mp.lt, hP.n2⟩
  have HNm : Hid (num = ((lt + 1 : Nat) : Int) ∧ (lt : Int) < 1152921504606846976) := ⟨hnum, hl9⟩
  have HKK : Hid (1 ≤ K ∧ K ≤ 50) := ⟨by have := hK.out; have := h1.out; omega, by have := hK.out; omega⟩
  have hnn := nil_neq
  clear ip0 fr0 hW hP hr ht hne hq hs hKk hk9 he9 hl9 hnum
  go_enter Tryz.func128, Tryz.ntmps128
  go_wp2_with fail
  refine HPc.out.mono ?_
  rintro e9 w1 ⟨v, rfl, o1, b1⟩
  obtain ⟨gp, cp, rfl⟩ : ∃ gp cp, v = .slice (some ⟨gp, 0, none⟩) K cp := by
    rcases Joins.ownsRow_forms o1 with ⟨e1, e2⟩ | ⟨gp, cp, e⟩
    · have := HKK.out; omega
    · exact ⟨gp, cp, e⟩
  have HK1 : Hid (Kp (fun _ => False) w w1) := Kp.of_below b1
  have HO1 : Hid (w1.ownsRow w.heap.size 232 4 (.slice (some ⟨gp, 0, none⟩) K cp) K (pcsC num b o len K)) := o1
  clear o1 b1 HPc v7 hwl
  go_wp2_with fail
  go_loopg [16] K (fun gk iv wr => ∃ j : Nat, j ≤ K ∧ gk = K - j ∧ iv = .int .i64 j ∧ Hid (Kp (fun x => x = m ∨ x = g ∨ x = gf) w1 wr) ∧ Hid (Wl wr g bp s gf ⟨aa, ab, ac, ad⟩ lt (e + j) (k - j)) ∧ Hid (Pt wr bp d m n (q + j) dur (wrT T s e (lt + 1) ys K j)))
  case atStart => exact ⟨0, Nat.zero_le _, rfl, rfl, Kp.refl _ _, HWl.out.keep HK1.out id id, HP.out.keep0 HK1.out⟩
  case round =>
    obtain ⟨j, hj, rfl, rfl, HK, HW, HQ⟩ := hrel
    by_cases hlt : j < K
    · have hlt2 : (j : Int) < (K : Int) := by omega
      have hwj : wrap64 ((j : Int) + 1) = ((j + 1 : Nat) : Int) := by have := HKK.out; unfold wrap64; omega
      have hjlen : 40 * j < len := by have := hK.out; omega
      obtain ⟨rbC, cl0, cl40⟩ := chunk_rb HR.out hjlen
      obtain ⟨cl, hcl⟩ : ∃ c, c = chL len j := ⟨_, rfl⟩
      obtain ⟨ob, hob⟩ : ∃ y, y = o + 40 * j := ⟨_, rfl⟩
      obtain ⟨bf, hbf⟩ : ∃ y, y = decide (j = 0) := ⟨_, rfl⟩
      obtain ⟨bl, hbl⟩ : ∃ y, y = decide (j = K - 1) := ⟨_, rfl⟩
      have hch : chV b o len j = .slice (some ⟨b, ob, none⟩) cl cl := by unfold chV; rw [hcl, hob]
      rw [← hcl] at rbC cl0 cl40
      rw [← hob] at rbC
      have HOr : wr.ownsRow w.heap.size 232 4 (.slice (some ⟨gp, 0, none⟩) K cp) K (pcsC num b o len K) := ownsRow_keep HO1.out HK.out (fun g' e1 e2 => by
        have e' : some gp = some g' := e1
        injection e' with e'
        have h9 := (ownBlock_lt HO1.out (g := gp) rfl).1
        have := HB.out
        omega)
      obtain ⟨g0, g1, g2, g3⟩ := pcs_get (z := num) (b := b) (o := o) (len := len) hlt
      rw [hch] at g1
      rw [← hbf] at g2
      rw [← hbl] at g3
      have c0 := HOr.cells (g := gp) rfl _ _ g0
      have c1 := HOr.cells (g := gp) rfl _ _ g1
      have c2 := HOr.cells (g := gp) rfl _ _ g2
      have c3 := HOr.cells (g := gp) rfl _ _ g3
      rw [Addr.add_mid, Nat.zero_add] at c0 c1 c2 c3
      rw [Nat.add_zero] at c0
      obtain ⟨kk, hkk⟩ : ∃ kk, k - j = kk + 1 := ⟨k - j - 1, by have := HB.out; omega⟩
      obtain ⟨capz, lz, ipz, frz⟩ := HW.out.ip
      rw [hkk] at frz
      have hlz := frz.len
      obtain ⟨p1, p2, p3⟩ := frz.pop
      obtain ⟨E, hE⟩ : ∃ E, E = e + j := ⟨_, rfl⟩
      rw [← hE] at p1 p2 p3
      obtain ⟨t6, ht6⟩ : ∃ t, t = wr.heap.size := ⟨_, rfl⟩
      obtain ⟨w5, hw5⟩ : ∃ y, y = wr.alloc (.cells #[.int .i64 num, .slice (some ⟨b, ob, none⟩) cl cl, .bool bf, .bool bl] 232) := ⟨_, rfl⟩
      have k5 : Kp (fun _ => False) wr w5 := by rw [hw5]; exact (Kp.refl _ _).alloc _
      have l6 : Lv w5 t6 [.int .i64 num, .slice (some ⟨b, ob, none⟩) cl cl, .bool bf, .bool bl] := by rw [hw5, ht6]; exact Lv.new _ _ _
      have ip5 := ipz.keep0 k5
      have HIp5 : Hid (Ip w5 g 6 gf capz [.pointer (some ⟨bp, 0, none⟩), .int .i64 s, .int .i64 aa, .int .i64 ab, .int .i64 ac, .int .i64 ad] [.int .i64 lt] lz ∧ lz.length = kk + 1 ∧ Free (popIL lz) (E + 1) kk) := ⟨ip5, hlz, p3⟩
      have d0 : w5.cell? ⟨g, 0, none⟩ = some (.pointer (some ⟨bp, 0, none⟩)) := ip5.lv.cell (j := 0) rfl
      have d1 : w5.cell? ⟨g, 1, none⟩ = some (.int .i64 s) := ip5.lv.cell (j := 1) rfl
      have d6 : w5.cell? ⟨g, 6, none⟩ = some (.slice (some ⟨gf, 0, none⟩) (kk + 1) capz) := by have := ip5.c0; rw [hlz] at this; exact this
      have df : w5.cell? ⟨gf, 0, none⟩ = some (.int .i64 (E : Int)) := by have := ip5.cn (j := 0) (by omega); rw [p1] at this; exact this
      have hm6 : m ≠ t6 := by have h8 := HB.out; have h9 := HK1.out.size; have h10 := HK.out.size; omega
      have HSS : Hid (∀ z, Kp (fun x => x = m) w5 z → Kp (fun x => x = m) w5 z ∧ z.cell? ⟨g, 0, none⟩ = some (.pointer (some ⟨bp, 0, none⟩)) ∧ z.cell? ⟨g, 1, none⟩ = some (.int .i64 s) ∧ z.cell? ⟨g, 6, none⟩ = some (.slice (some ⟨gf, 0, none⟩) (kk + 1) capz) ∧ z.cell? ⟨gf, 0, none⟩ = some (.int .i64 (E : Int)) ∧ z.cell? ⟨t6, 0, none⟩ = some (.int .i64 num) ∧ z.cell? ⟨t6, 1, none⟩ = some (.slice (some ⟨b, ob, none⟩) cl cl) ∧ z.cell? ⟨t6, 2, none⟩ = some (.bool bf) ∧ z.cell? ⟨t6, 3, none⟩ = some (.bool bl)) := fun z kz =>
        ⟨kz, kz.cellv d0 HNe.out.2.1, kz.cellv d1 HNe.out.2.1, kz.cellv d6 HNe.out.2.1, kz.cellv df HNe.out.2.2.2.2.1, kz.cellv (l6.cell (j := 0) rfl) (Ne.symm hm6), kz.cellv (l6.cell (j := 1) rfl) (Ne.symm hm6), kz.cellv (l6.cell (j := 2) rfl) (Ne.symm hm6), kz.cellv (l6.cell (j := 3) rfl) (Ne.symm hm6)⟩
      obtain ⟨sc, hsc⟩ : ∃ sc, sc = 2 + E % s := ⟨_, rfl⟩
      have hscn : sc < n := by have := HB.out; have := Nat.mod_lt E (show 0 < s by omega); omega
      have H1 : Hid (∀ u, Calls Tryz.prog 167 #[ringV bp s, .int .i64 (E : Int)] u fun e9 w' => e9 = .returned (.int .i64 (sc : Int)) ∧ Kp (fun _ => False) u w') := fun u => by
        rw [hsc]
        exact rsector_ok bp s E u (by have := HB.out; omega) (by have := HB.out; omega) (by have := HB.out; have := HKK.out; omega)
      have HKw5 : Hid (Kp (fun x => x = m ∨ x = g ∨ x = gf) w w5) := ((HK1.out.mono (fun _ _ e => e.elim)).trans HK.out (fun _ _ e => e)).trans k5 (fun _ _ e => e.elim)
      obtain ⟨X, hX⟩ : ∃ X, X = secJ (lt + 1) ys K j := ⟨_, rfl⟩
      have hXe : pcB (u64Of num) ((ys.drop (40 * j)).take 40) bf bl = X := by
        rw [hX]
        unfold secJ
        have hu : u64Of num = lt + 1 := by
          rw [HNm.out.1]
          unfold u64Of
          have := HNm.out.2
          omega
        rw [hu, ← hbf, ← hbl]
      have H2 : Hid (∀ u, Kp (fun x => x = m) w5 u → Calls Tryz.prog 168 #[pcV num (.slice (some ⟨b, ob, none⟩) cl cl) bf bl] u fun e9 w' => ∃ g9, u.heap.size ≤ g9 ∧ e9 = .returned (.slice (some ⟨g9, 0, none⟩) 64 64) ∧ Kp (fun _ => False) u w' ∧ Rb w' (some ⟨g9, 0, none⟩) 64 X) := fun u ku => by
        have hku : Kp (fun x => x = m ∨ x = g ∨ x = gf) w u := HKw5.out.trans ku (fun _ _ e => Or.inl e)
        refine (psector_ok num (some ⟨b, ob, none⟩) cl cl _ bf bl u (rbC.keep hku (fun a ha _ => ?_)) cl0 (by omega) (fun i hi => hku.cellv (HT.out i hi) (fun e => ?_))).mono ?_
        · cases ha
          intro e
          have := HNe.out
          have e' : b = m ∨ b = g ∨ b = gf := e
          omega
        · have e' : (0 : Nat) = m ∨ (0 : Nat) = g ∨ (0 : Nat) = gf := e
          have := HNe.out
          omega
        · rintro e9 w' ⟨g9, hg9, he, hk, hb⟩
          rw [hXe] at hb
          exact ⟨g9, hg9, he, hk, hb.rb⟩
      have HPt5 : Hid (Pt w5 bp d m n (q + j) dur (wrT T s e (lt + 1) ys K j)) := HQ.out.keep0 k5
      have H3 : Hid (∀ u g9, Kp (fun _ => False) w5 u → Rb u (some ⟨g9, 0, none⟩) 64 X → Calls Tryz.prog 166 #[ringV bp s, .int .i64 (sc : Int), .slice (some ⟨g9, 0, none⟩) 64 64] u fun e9 w' => e9 = .returned .nilIface ∧ Kp (fun x => x = m) u w' ∧ Pt w' bp d m n (q + (j + 1)) dur (wrT T s e (lt + 1) ys K (j + 1))) := fun u g9 ku hb => by
        refine (rwrite_ok (HPt5.out.keep0 ku) (by have := HB.out; have := HKK.out; omega) s sc (by omega) g9 0 64 X hb).mono ?_
        rintro e9 w' ⟨he, hk, hp⟩
        refine ⟨he, hk, ?_⟩
        have e1 : (fun i => if i = sc then some X else wrT T s e (lt + 1) ys K j i) = wrT T s e (lt + 1) ys K (j + 1) := by
          funext i
          rw [hsc, hX, hE]
          rfl
        rw [e1, Nat.add_assoc] at hp
        exact hp
      have hn0 : (0 : Int) < ((kk + 1 : Nat) : Int) := by omega
      have HE : Hid (E = e + j ∧ k - j = kk + 1) := ⟨hE, hkk⟩
      clear hE hkk
      clear HOr g0 g1 g2 g3 hch hcl hob hbf hbl rbC cl0 cl40 ipz frz hlz p1 p2 p3 ip5 d0 d1 d6 df l6 hsc hX hXe hscn hjlen
      go_upto_region 4 with fail
      rw [← hw5, ← ht6]
      have HKr5 : Hid (Kp (fun _ => False) wr w5) := k5
      clear hw5 ht6 k5 c0 c1 c2 c3
      have kd : Kp (fun x => x = m) w5 w5.drew := (Kp.refl _ _).drew
      have kf : Kp (fun _ => False) w5 w5.drew := (Kp.refl _ _).drew
      have HTr : Hid (∀ u u' : World, Kp (fun _ => False) w5 u → Kp (fun _ => False) u u' → Kp (fun _ => False) w5 u') := fun u u' h1 h2 => h1.trans h2 (fun _ _ e => e)
      have HTm : Hid (∀ u, Kp (fun _ => False) w5 u → Kp (fun x => x = m) w5 u) := fun u h => h.mono (fun _ _ e => e.elim)
      have HTw : Hid (∀ u u' : World, Kp (fun _ => False) w5 u → Kp (fun x => x = m) u u' → Kp (fun x => x = m) w5 u') := fun u u' h1 h2 => (h1.mono (fun _ _ e => e.elim)).trans h2 (fun _ _ e => e)
      go_region_held3 (fun z => Kp (fun x => x = m) w5 z ∧ z.cell? ⟨g, 0, none⟩ = some (.pointer (some ⟨bp, 0, none⟩)) ∧ z.cell? ⟨g, 1, none⟩ = some (.int .i64 s) ∧ z.cell? ⟨g, 6, none⟩ = some (.slice (some ⟨gf, 0, none⟩) (kk + 1) capz) ∧ z.cell? ⟨gf, 0, none⟩ = some (.int .i64 (E : Int)) ∧ z.cell? ⟨t6, 0, none⟩ = some (.int .i64 num) ∧ z.cell? ⟨t6, 1, none⟩ = some (.slice (some ⟨b, ob, none⟩) cl cl) ∧ z.cell? ⟨t6, 2, none⟩ = some (.bool bf) ∧ z.cell? ⟨t6, 3, none⟩ = some (.bool bl))
        (first
          | exact HSS.out _ kd
          | exact HSS.out _ km1
          | exact HSS.out _ km2
          | exact HSS.out _ km3)
        (first
          | (go_at_call 167; refine (H1.out _).mono ?_; rintro e9 wA ⟨rfl, kA⟩; have kw1 := HTr.out _ _ kf kA; have km1 := HTm.out _ kw1)
          | (go_at_call 168; refine (H2.out _ km1).mono ?_; rintro e9 wB ⟨g9, hg9, rfl, kB, rb9⟩; have kw2 := HTr.out _ _ kw1 kB; have km2 := HTm.out _ kw2)
          | (go_at_call 166; refine (H3.out _ _ kw2 rb9).mono ?_; rintro e9 wX ⟨rfl, kX, pX⟩; have km3 := HTw.out _ _ kw2 kX))
      all_goals
        have HPX : Hid (Pt wX bp d m n (q + (j + 1)) dur (wrT T s e (lt + 1) ys K (j + 1))) := pX
        have HKX : Hid (Kp (fun x => x = m) w5 wX) := km3
        have HIX : Hid (Ip wX g 6 gf capz [.pointer (some ⟨bp, 0, none⟩), .int .i64 s, .int .i64 aa, .int .i64 ab, .int .i64 ac, .int .i64 ad] [.int .i64 lt] lz) := HIp5.out.1.keep km3 HNe.out.2.1 HNe.out.2.2.2.2.1
        have HPo : Hid (Calls _ _ _ wX _) := heapPopI HIX.out (by have h9 := HIp5.out.2.1; have := HB.out; have := HE.out; omega)
        clear pX kX kB kA rb9 hg9 kw1 kw2 km1 km2 km3 kd kf hm6
        go_simp
        go_wp2_with fail
        refine HPo.out.mono ?_
        rintro e9 wY ⟨rfl, kY, ipY⟩
        have HF : Hid (Kp (fun x => x = m ∨ x = g ∨ x = gf) w1 wY ∧ Wl wY g bp s gf ⟨aa, ab, ac, ad⟩ lt (e + (j + 1)) (k - (j + 1)) ∧ Pt wY bp d m n (q + (j + 1)) dur (wrT T s e (lt + 1) ys K (j + 1))) := by
          refine ⟨((HK.out.trans HKr5.out (fun _ _ e => e.elim)).trans HKX.out (fun _ _ e => Or.inl e)).trans kY (fun _ _ e => Or.inr e), ?_, HPX.out.keep kY (fun e9 => by
            have e' : bp = g ∨ bp = gf := e9
            have := HNe.out
            omega) (fun e9 => by
            have e' : d = g ∨ d = gf := e9
            have := HNe.out
            omega) (fun e9 => by
            have e' : m = g ∨ m = gf := e9
            have := HNe.out
            omega)⟩
          have h9 := Wl.of_ip (A := ⟨aa, ab, ac, ad⟩) ipY HIp5.out.2.2
          have h10 := HE.out
          rw [show e + (j + 1) = E + 1 by omega, show k - (j + 1) = kk by omega]
          exact h9
        clear kY ipY HPo
        go_wp2
        go_roundg (K - (j + 1))
        case rel => exact ⟨j + 1, by omega, rfl, by first | rw [hwj] | simp, HF.out.1, HF.out.2.1, HF.out.2.2⟩
        case measure => omega
    · have hjK : j = K := by omega
      subst hjK
      have hlt2 : ¬ ((j : Int) < (j : Int)) := by omega
      obtain ⟨capz, lz, ipz, frz⟩ := HW.out.ip
      have v7 : wr.cell? ⟨g, 7, none⟩ = some (.int .i64 (lt : Int)) := ipz.lv.cell (j := 7) rfl
      have f7 : wr.frozen? ⟨g, 7, none⟩ = false := ipz.lv.fz (j := 7) (by simp)
      have hwl : wrap64 ((lt : Int) + 1) = num := by rw [HNm.out.1]; have := HNm.out.2; unfold wrap64; omega
      obtain ⟨w5, hw5⟩ : ∃ y, y = wr.setCell ⟨g, 7, none⟩ (.int .i64 num) := ⟨_, rfl⟩
      have k5 : Kp (fun x => x = g) wr w5 := by rw [hw5]; exact kp_set
      have hl5 : Lv w5 g [.pointer (some ⟨bp, 0, none⟩), .int .i64 s, .int .i64 aa, .int .i64 ab, .int .i64 ac, .int .i64 ad, .slice (some ⟨gf, 0, none⟩) lz.length capz, .int .i64 num] := by
        rw [hw5]
        exact ipz.lv.set1 7 (.int .i64 num) (by simp)
      have HF : Hid (Kp (fun x => x = m ∨ x = g ∨ x = gf) w w5 ∧ Pt w5 bp d m n (q + j) dur (wrT T s e (lt + 1) ys j j) ∧ Wl w5 g bp s gf ⟨aa, ab, ac, ad⟩ ((lt + 1 : Nat) : Int) (e + j) (k - j)) := by
        refine ⟨((HK1.out.mono (fun _ _ e => e.elim)).trans HK.out (fun _ _ e => e)).trans k5 (fun _ _ e => Or.inr (Or.inl e)), HQ.out.keep k5 HNe.out.2.2.1 (fun e => HNe.out.1 e.symm) (fun e => HNe.out.2.1 e.symm), ?_⟩
        rw [← HNm.out.1]
        exact Wl.of_ip ⟨hl5, rfl, ownsRow_keep ipz.ow k5 (fun g' e e2 => by have e' : some gf = some g' := e; injection e' with e'; have := ipz.ne; omega), ipz.ne⟩ frz
      clear ipz frz k5 hl5
      go_wp2
      rw [← hw5]
      go_ret
      exact ⟨rfl, HF.out⟩
end Go.Proofs.YtmooddbhcccicaaGreatDoor

/- Append, Room, Last, Life. -/
namespace Go.Proofs.YtmooddbhcccicaaGreatDoor
set_option linter.unusedVariables false
set_option linter.unusedSimpArgs false
open Go.RowKit Go.Deep

theorem Wl.cells {w : World} {g bp s gf : Nat} {A : H4} {last : Int} {e k : Nat} (h : Wl w g bp s gf A last e k) : w.cell? ⟨g, 0, none⟩ = some (.pointer (some ⟨bp, 0, none⟩)) ∧ w.cell? ⟨g, 3, none⟩ = some (.int .i64 A.b) ∧ (∃ cap, w.cell? ⟨g, 6, none⟩ = some (.slice (some ⟨gf, 0, none⟩) k cap)) ∧ w.cell? ⟨g, 7, none⟩ = some (.int .i64 last) := by
  obtain ⟨cap, l, h1, h2, h3⟩ := h.hp
  exact ⟨h1.cell (j := 0) rfl, h1.cell (j := 3) rfl, ⟨cap, h1.cell (j := 6) rfl⟩, h1.cell (j := 7) rfl⟩

set_option maxRecDepth 100000 in
theorem wmade_ok {w : World} {g bp : Nat} (h : w.cell? ⟨g, 0, none⟩ = some (.pointer (some ⟨bp, 0, none⟩))) :
    Calls Tryz.prog 93 #[.pointer (some ⟨g, 0, none⟩)] w fun e w' => e = .returned (.bool true) ∧ w' = w := by
  go_enter Tryz.func93, Tryz.ntmps93
  go_wp2
  go_ret
  exact ⟨rfl, rfl⟩

set_option maxRecDepth 100000 in
theorem room_ok {w : World} {g bp s gf : Nat} {A : H4} {last : Int} {e k : Nat} (h : Wl w g bp s gf A last e k) :
    Calls Tryz.prog 82 #[.pointer (some ⟨g, 0, none⟩)] w fun e9 w' => e9 = .returned (.int .i64 (k : Int)) ∧ w' = w := by
  obtain ⟨c0, c3, ⟨cap, c6⟩, c7⟩ := h.cells
  have HM : Hid (Calls _ _ _ w _) := wmade_ok c0
  clear h
  go_enter Tryz.func82, Tryz.ntmps82
  go_wp2_with fail
  refine HM.out.mono ?_
  rintro e9 w9 ⟨rfl, hw9⟩
  have hw8 := hw9.symm
  subst hw8
  clear hw9 HM
  go_wp2
  go_ret
  exact ⟨rfl, rfl⟩

set_option maxRecDepth 100000 in
theorem life_ok {w : World} {g bp s gf : Nat} {A : H4} {last : Int} {e k : Nat} (h : Wl w g bp s gf A last e k) :
    Calls Tryz.prog 58 #[.pointer (some ⟨g, 0, none⟩)] w fun e9 w' => e9 = .returned (.int .i64 A.b) ∧ w' = w := by
  obtain ⟨c0, c3, ⟨cap, c6⟩, c7⟩ := h.cells
  have HM : Hid (Calls _ _ _ w _) := wmade_ok c0
  clear h
  go_enter Tryz.func58, Tryz.ntmps58
  go_wp2_with fail
  refine HM.out.mono ?_
  rintro e9 w9 ⟨rfl, hw9⟩
  have hw8 := hw9.symm
  subst hw8
  clear hw9 HM
  go_wp2
  go_ret
  exact ⟨rfl, rfl⟩

set_option maxRecDepth 100000 in
theorem isRecord_ok (p : Option Addr) (n c : Nat) (w : World) : Calls Tryz.prog 125 #[.slice p n c] w fun e w' => e = .returned (.bool (decide (1 ≤ n ∧ n ≤ 2000))) ∧ w' = w := by
  by_cases h1 : (n : Int) ≥ 1
  · by_cases h2 : (n : Int) ≤ 2000
    · rw [decide_eq_true (show 1 ≤ n ∧ n ≤ 2000 by omega)]
      go_enter Tryz.func125, Tryz.ntmps125
      go_wp2
      go_ret
      exact ⟨rfl, rfl⟩
    · rw [decide_eq_false (show ¬ (1 ≤ n ∧ n ≤ 2000) by omega)]
      go_enter Tryz.func125, Tryz.ntmps125
      go_wp2
      go_ret
      exact ⟨rfl, rfl⟩
  · rw [decide_eq_false (show ¬ (1 ≤ n ∧ n ≤ 2000) by omega)]
    go_enter Tryz.func125, Tryz.ntmps125
    go_wp2
    go_ret
    exact ⟨rfl, rfl⟩

theorem quo_40 {n K : Nat} (h : K = (n + 39) / 40) (hn : n ≤ 140737488355328) : wrap64 ((n : Int) + 40) = (n : Int) + 40 ∧ wrap64 ((n : Int) + 40 - 1) = (((n + 39 : Nat)) : Int) ∧ (((n + 39 : Nat)) : Int).tdiv 40 = (K : Int) ∧ wrap64 (K : Int) = (K : Int) := by
  refine ⟨by unfold wrap64; omega, by unfold wrap64; omega, ?_, by unfold wrap64; omega⟩
  rw [Int.tdiv_eq_ediv_of_nonneg (by omega), h]
  omega
set_option maxRecDepth 100000 in
theorem sectorsOf_ok (p : Option Addr) (n c K : Nat) (hK : K = (n + 39) / 40) (hn : n ≤ 140737488355328) (w : World) : Calls Tryz.prog 126 #[.slice p n c] w fun e w' => e = .returned (.int .i64 (K : Int)) ∧ w' = w := by
  obtain ⟨e1, e2, e3, e4⟩ := quo_40 hK hn
  obtain ⟨m, hm⟩ : ∃ m, m = n + 39 := ⟨_, rfl⟩
  rw [← hm] at e2 e3
  clear hK hn hm
  go_enter Tryz.func126, Tryz.ntmps126
  go_wp2
  go_ret
  refine ⟨?_, rfl⟩
  show Ending.returned (.int .i64 (wrap64 (K : Int))) = _
  rw [e4]

set_option maxRecDepth 100000 in
set_option maxHeartbeats 800000 in
theorem append_arg {w : World} {g bp s gf : Nat} {A : H4} {last : Int} {e k : Nat} (h : Wl w g bp s gf A last e k) (p : Option Addr) (n c : Nat) (hn : ¬ (1 ≤ n ∧ n ≤ 2000)) :
    Calls Tryz.prog 85 #[.pointer (some ⟨g, 0, none⟩), .slice p n c] w fun e9 w' => e9 = .returned (.tuple #[.int .i64 0, .int .i64 1]) ∧ w' = w := by
  have HM : Hid (Calls _ _ _ w _) := wmade_ok h.cells.1
  have HI : Hid (Calls _ _ _ w _) := isRecord_ok p n c w
  rw [decide_eq_false hn] at HI
  clear h hn
  go_enter Tryz.func85, Tryz.ntmps85
  go_wp2_with fail
  refine HM.out.mono ?_
  rintro e9 w9 ⟨rfl, hw9⟩
  have hw8 := hw9.symm
  subst hw8
  clear hw9 HM
  go_wp2_with fail
  refine HI.out.mono ?_
  rintro e9 w9 ⟨rfl, hw9⟩
  have hw8 := hw9.symm
  subst hw8
  clear hw9 HI
  go_wp2
  go_ret2
  exact ⟨rfl, rfl⟩

set_option maxRecDepth 100000 in
set_option maxHeartbeats 800000 in
theorem append_full {w : World} {g bp s gf : Nat} {A : H4} {last : Int} {e k : Nat} (h : Wl w g bp s gf A last e k) (p : Option Addr) (n c K : Nat) (hn : 1 ≤ n ∧ n ≤ 2000) (hK : K = (n + 39) / 40) (hk : k < K) :
    Calls Tryz.prog 85 #[.pointer (some ⟨g, 0, none⟩), .slice p n c] w fun e9 w' => e9 = .returned (.tuple #[.int .i64 0, .int .i64 4]) ∧ w' = w := by
  have HM : Hid (Calls _ _ _ w _) := wmade_ok h.cells.1
  have HI : Hid (Calls _ _ _ w _) := isRecord_ok p n c w
  rw [decide_eq_true hn] at HI
  have HS : Hid (Calls _ _ _ w _) := sectorsOf_ok p n c K hK (by omega) w
  have HR : Hid (Calls _ _ _ w _) := room_ok h
  have hgt : (K : Int) > (k : Int) := by omega
  clear h hn hK hk
  go_enter Tryz.func85, Tryz.ntmps85
  go_wp2_with fail
  refine HM.out.mono ?_
  rintro e9 w9 ⟨rfl, hw9⟩
  have hw8 := hw9.symm
  subst hw8
  clear hw9 HM
  go_wp2_with fail
  refine HI.out.mono ?_
  rintro e9 w9 ⟨rfl, hw9⟩
  have hw8 := hw9.symm
  subst hw8
  clear hw9 HI
  go_wp2_with fail
  refine HS.out.mono ?_
  rintro e9 w9 ⟨rfl, hw9⟩
  have hw8 := hw9.symm
  subst hw8
  clear hw9 HS
  go_wp2_with fail
  refine HR.out.mono ?_
  rintro e9 w9 ⟨rfl, hw9⟩
  have hw8 := hw9.symm
  subst hw8
  clear hw9 HR
  go_wp2
  go_ret2
  exact ⟨rfl, rfl⟩

set_option maxRecDepth 100000 in
set_option maxHeartbeats 1600000 in
theorem append_put {w : World} {g bp d m n q s gf b o len cap K e k lt : Nat} {dur : List Nat} {T : Nat → Option (List Nat)} {A : H4} {ys : List Nat} (hP : Pt w bp d m n q dur T) (hq : (q : Int) ≤ 9000000000000000000) (hs : n = 2 + s ∧ 1 ≤ s) (hW : Wl w g bp s gf A lt e k) (hKk : K ≤ k) (hK : Hid (K = (len + 39) / 40 ∧ len ≤ 2000 ∧ len ≤ cap)) (h1 : Hid (1 ≤ len)) (hr : Rb w (some ⟨b, o, none⟩) len ys) (hk9 : k ≤ 8192) (he9 : (e : Int) ≤ 900000000000000000) (hl9 : (lt : Int) < 1152921504606846976)
    (hne : g ≠ d ∧ g ≠ m ∧ bp ≠ g ∧ gf ≠ d ∧ gf ≠ m ∧ bp ≠ gf ∧ b ≠ m ∧ b ≠ g ∧ b ≠ gf ∧ g ≠ 0 ∧ gf ≠ 0 ∧ m ≠ 0) (ht : Turns w) :
    Calls Tryz.prog 85 #[.pointer (some ⟨g, 0, none⟩), .slice (some ⟨b, o, none⟩) len cap] w fun e9 w' => e9 = .returned (.tuple #[.int .i64 ((lt + 1 : Nat) : Int), .int .i64 0]) ∧ Kp (fun x => x = m ∨ x = g ∨ x = gf) w w' ∧ Pt w' bp d m n (q + K) dur (wrT T s e (lt + 1) ys K K) ∧ Wl w' g bp s gf A ((lt + 1 : Nat) : Int) (e + K) (k - K) := by
  have HM : Hid (Calls _ _ _ w _) := wmade_ok hW.cells.1
  have HI : Hid (Calls _ _ _ w _) := isRecord_ok (some ⟨b, o, none⟩) len cap w
  rw [decide_eq_true (show 1 ≤ len ∧ len ≤ 2000 from ⟨h1.out, hK.out.2.1⟩)] at HI
  have HS : Hid (Calls _ _ _ w _) := sectorsOf_ok (some ⟨b, o, none⟩) len cap K hK.out.1 (by have := hK.out; omega) w
  have HR : Hid (Calls _ _ _ w _) := room_ok hW
  have HPu : Hid (Calls _ _ _ w _) := put_ok hP hq hs hW hKk hK h1 hr hk9 he9 hl9 hne ht
  have hgt : ¬ ((K : Int) > (k : Int)) := by omega
  have hlg : decide ((lt : Int) ≥ 1152921504606846976) = false := decide_eq_false (by omega)
  have c7 := hW.cells.2.2.2
  have hnn := nil_neq
  clear hP hq hs hW hKk hK h1 hr hk9 he9 hl9 hne ht
  go_enter Tryz.func85, Tryz.ntmps85
  go_wp2_with fail
  refine HM.out.mono ?_
  rintro e9 w9 ⟨rfl, hw9⟩
  have hw8 := hw9.symm
  subst hw8
  clear hw9 HM
  go_wp2_with fail
  refine HI.out.mono ?_
  rintro e9 w9 ⟨rfl, hw9⟩
  have hw8 := hw9.symm
  subst hw8
  clear hw9 HI
  go_wp2_with fail
  refine HS.out.mono ?_
  rintro e9 w9 ⟨rfl, hw9⟩
  have hw8 := hw9.symm
  subst hw8
  clear hw9 HS
  go_wp2_with fail
  refine HR.out.mono ?_
  rintro e9 w9 ⟨rfl, hw9⟩
  have hw8 := hw9.symm
  subst hw8
  clear hw9 HR
  go_wp2_with fail
  refine HPu.out.mono ?_
  rintro e9 w1 ⟨rfl, k1, p1, l1⟩
  have c71 := l1.cells.2.2.2
  obtain ⟨nm, hnm⟩ : ∃ nm : Int, nm = ((lt + 1 : Nat) : Int) := ⟨_, rfl⟩
  have HF : Hid (Kp (fun x => x = m ∨ x = g ∨ x = gf) w w1 ∧ Pt w1 bp d m n (q + K) dur (wrT T s e (lt + 1) ys K K) ∧ Wl w1 g bp s gf A ((lt + 1 : Nat) : Int) (e + K) (k - K)) := ⟨k1, p1, l1⟩
  have HNm : Hid (nm = ((lt + 1 : Nat) : Int)) := hnm
  rw [← hnm] at c71
  clear k1 p1 l1 HPu c7 hnm
  go_wp2
  go_ret2
  exact ⟨by show Ending.returned (.tuple #[.int .i64 nm, .int .i64 0]) = _; rw [HNm.out], HF.out⟩
end Go.Proofs.YtmooddbhcccicaaGreatDoor
