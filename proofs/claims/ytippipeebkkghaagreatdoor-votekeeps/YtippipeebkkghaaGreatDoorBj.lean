/- A log of a plate that has one: open. -/
import Derived.Test.YtippipeebkkghaaGreatDoorBd
namespace Go.Proofs.YtippipeebkkghaaGreatDoor
set_option linter.unusedVariables false
set_option linter.unusedSimpArgs false
open Go.RowKit Go.Deep

theorem wrapES {e s E : Nat} (h : E = e + s) (h2 : E ≤ 1152921504606846976) : wrap64 ((e : Int) + (s : Int)) = (E : Int) := by unfold wrap64; omega
set_option maxRecDepth 100000 in
set_option maxHeartbeats 1600000 in
theorem openAny_ok {w : World} {g bp d m n q s : Nat} {dur : List Nat} {T : Nat → Option (List Nat)} (h : Pt w bp d m n q dur T) (hq : (q : Int) ≤ 9000000000000000000) (hs : n = 2 + s ∧ 1 ≤ s) (A : H4) (fv : Value) (last : Int) (hl : Lv w g (walC bp s A fv last)) (hgd : g ≠ d) (hgm : g ≠ m) (hgb : bp ≠ g) (hgt : ¬ 0 = g ∧ ¬ 0 = d ∧ ¬ 0 = m) (a b c e : Nat) (hN : newH dur T s 2 = ⟨a, b, c, e⟩) (ha : 1 ≤ a ∧ a + 1 ≤ 1152921504606846976) (hb : b + 1 ≤ 1152921504606846976) (hc : c ≤ 8192) (he : 1 ≤ e ∧ e + s < 1152921504606846976) (ht : Turns w) :
    Calls Tryz.prog 60 #[.pointer (some ⟨g, 0, none⟩)] w fun e9 w' => ∃ v gf, e9 = .returned (.tuple #[v, .nilIface]) ∧ Kp (fun x => x = d ∨ x = m ∨ x = g) w w' ∧ Rw w' w.heap.size v (recsW (nowOf dur T) s c e (s + 1) 0 []).1 ∧ w.heap.size ≤ gf ∧ OpD w' bp d m n s dur T (a + 1) (b + 1) c e (recsW (nowOf dur T) s c e (s + 1) 0 []).2 ∧ Wl w' g bp s gf ⟨((a + 1 : Nat) : Int), ((b + 1 : Nat) : Int), c, e⟩ ((e - 1 + (recsW (nowOf dur T) s c e (s + 1) 0 []).1.length : Nat) : Int) (c + (recsW (nowOf dur T) s c e (s + 1) 0 []).2) (s - (recsW (nowOf dur T) s c e (s + 1) 0 []).2) := by
  have HW : Hid (Calls Tryz.prog 92 #[ringV bp s] w fun e9 w' => e9 = .returned (.tuple #[headV a b c e, .nilIface]) ∧ Kp (fun _ => False) w w') := (newest_ok h s (by have := h.n2; omega) (by omega) ht).mono fun e9 w' ⟨he9, hk⟩ => ⟨by
    rw [hN] at he9
    unfold NewRes at he9
    rw [if_neg (show ¬ ((a : Int) = 0) by omega)] at he9
    exact he9, hk⟩
  have HR : Hid (∀ u, Kp (fun _ => False) w u → Calls _ _ _ u _) := fun u k => resume_ok (h.keep0 k) hq hs A fv last (hl.keep k id) hgd hgm hgb hgt a b c e ha.2 hb hc ⟨he.1, by omega⟩ (fun j hj => k.cellv (ht j hj) id)
  obtain ⟨RR, hRR⟩ : ∃ R, R = recsW (nowOf dur T) s c e (s + 1) 0 [] := ⟨_, rfl⟩
  rw [← hRR] at HR ⊢
  clear hRR
  have HI : Hid (∀ u, Calls Tryz.prog 31 #[.nilIface, eno 70] u fun e w' => e = .returned (.bool false) ∧ w' = u) := fun u => is_nil 70 u
  obtain ⟨ES, hES⟩ : ∃ E, E = e + s := ⟨_, rfl⟩
  have hw1 := wrapES hES (by omega)
  have hw2 := wrapI hw1
  have g1 : decide ((1152921504606846976 : Int) ≤ (a : Int)) = false := decide_eq_false (by omega)
  have g2 : decide ((1152921504606846976 : Int) ≤ (b : Int)) = false := decide_eq_false (by omega)
  have g3 : decide ((1152921504606846976 : Int) ≤ (ES : Int)) = false := decide_eq_false (by omega)
  obtain ⟨aa, ab, ac, ad⟩ := A
  have HLg : Hid (Lv w g (walC bp s ⟨aa, ab, ac, ad⟩ fv last)) := hl
  have v0 := hl.cell (j := 0) rfl
  have v1 := hl.cell (j := 1) rfl
  have hnn := nil_neq
  clear h hl ht hgd hgm hgb hq hs hgt hN ha hb hc he hES
  go_enter Tryz.func60, Tryz.ntmps60
  go_wp2_with fail
  refine HW.out.mono ?_
  rintro e9 w1 ⟨rfl, k1⟩
  have HK1 : Hid (Kp (fun _ => False) w w1) := k1
  clear k1 HW v0 v1
  go_upto_region 2 with fail
  obtain ⟨r, hr⟩ : ∃ r, r = w1.heap.size := ⟨_, rfl⟩
  obtain ⟨w2, hw2⟩ : ∃ y, y = w1.alloc (.cells #[.int .i64 (a : Int), .int .i64 (b : Int), .int .i64 (c : Int), .int .i64 (e : Int)] 134) := ⟨_, rfl⟩
  have HK2 : Hid (Kp (fun _ => False) w w2) := HK1.out.trans (S' := fun _ => False) (by rw [hw2]; exact (Kp.refl _ _).alloc _) (fun _ _ e => e)
  have HL2 : Hid (Lv w2 r (H4.cells ⟨a, b, c, e⟩)) := by rw [hw2, hr]; exact Lv.new _ _ _
  have HLg2 : Hid (Lv w2 g (walC bp s ⟨aa, ab, ac, ad⟩ fv last)) := HLg.out.keep HK2.out id
  rw [← hw2, ← hr]
  clear hw2 hr
  go_wp2_with fail
  refine (HI.out _).mono ?_
  rintro e9 w3 ⟨rfl, hw9⟩
  have hw8 := hw9.symm
  subst hw8
  clear hw9 HI
  have v1 := HLg2.out.cell (j := 1) rfl
  have q0 := HL2.out.cell (j := 0) rfl
  have q1 := HL2.out.cell (j := 1) rfl
  have q2 := HL2.out.cell (j := 2) rfl
  have q3 := HL2.out.cell (j := 3) rfl
  go_upto_region 6 with fail
  have HSS : Hid (∀ z, Kp (fun _ => False) w2 z → Kp (fun _ => False) w2 z ∧ z.cell? ⟨g, 1, none⟩ = some (.int .i64 (s : Int)) ∧ z.cell? ⟨r, 0, none⟩ = some (.int .i64 (a : Int)) ∧ z.cell? ⟨r, 1, none⟩ = some (.int .i64 (b : Int)) ∧ z.cell? ⟨r, 2, none⟩ = some (.int .i64 (c : Int)) ∧ z.cell? ⟨r, 3, none⟩ = some (.int .i64 (e : Int))) := fun z kz => ⟨kz, kz.cellv v1 id, kz.cellv q0 id, kz.cellv q1 id, kz.cellv q2 id, kz.cellv q3 id⟩
  have kd : Kp (fun _ => False) w2 w2.drew := (Kp.refl _ _).drew
  go_region_held3 (fun z => Kp (fun _ => False) w2 z ∧ z.cell? ⟨g, 1, none⟩ = some (.int .i64 (s : Int)) ∧ z.cell? ⟨r, 0, none⟩ = some (.int .i64 (a : Int)) ∧ z.cell? ⟨r, 1, none⟩ = some (.int .i64 (b : Int)) ∧ z.cell? ⟨r, 2, none⟩ = some (.int .i64 (c : Int)) ∧ z.cell? ⟨r, 3, none⟩ = some (.int .i64 (e : Int)))
    (exact HSS.out _ kd)
    (fail)
  have HKd : Hid (Kp (fun _ => False) w w2.drew) := HK2.out.trans kd (fun _ _ e => e)
  obtain ⟨_, z1, z2, z3, z4, z5⟩ := HSS.out _ kd
  clear kd HSS v1 q0 q1 q2 q3
  go_simp
  go_wp2_with fail
  refine (HR.out _ HKd.out).mono ?_
  rintro e9 w4 ⟨v, gf, rfl, k4, rw4, hgf, o4, l4⟩
  have HF : Hid (Kp (fun x => x = d ∨ x = m ∨ x = g) w w4 ∧ Rw w4 w.heap.size v RR.1 ∧ w.heap.size ≤ gf ∧ OpD w4 bp d m n s dur T (a + 1) (b + 1) c e RR.2 ∧ Wl w4 g bp s gf ⟨((a + 1 : Nat) : Int), ((b + 1 : Nat) : Int), c, e⟩ ((e - 1 + RR.1.length : Nat) : Int) (c + RR.2) (s - RR.2)) := ⟨(HKd.out.mono (fun _ _ e => e.elim)).trans k4 (fun _ _ e => e), rw4.base HKd.out.size, Nat.le_trans HKd.out.size hgf, o4, l4⟩
  clear k4 rw4 hgf o4 l4 HR
  go_wp2
  go_ret2
  exact ⟨v, gf, rfl, HF.out⟩
end Go.Proofs.YtippipeebkkghaaGreatDoor
