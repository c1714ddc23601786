/- A log taken up again: resume. -/
import Derived.Test.YtippipeebkkghaaGreatDoorBc
import Derived.Test.YtippipeebkkghaaGreatDoorBf
namespace Go.Proofs.YtippipeebkkghaaGreatDoor
set_option linter.unusedVariables false
set_option linter.unusedSimpArgs false
open Go.RowKit Go.Deep

theorem recsW_used {rd : Nat → List Nat} {s place first : Nat} : ∀ (f used : Nat) (acc : List (List Nat)), used ≤ s → acc.length ≤ used → (recsW rd s place first f used acc).2 ≤ s ∧ (recsW rd s place first f used acc).1.length ≤ (recsW rd s place first f used acc).2
  | 0, used, acc, h1, h2 => ⟨h1, h2⟩
  | f + 1, used, acc, h1, h2 => by
    rw [recsW_succ]
    obtain ⟨O, hO⟩ : ∃ O, O = recW rd s (place + used) ((first + acc.length : Nat) : Int) (min (s - used) 50) 0 [] := ⟨_, rfl⟩
    rw [← hO]
    cases O with
    | none => exact ⟨h1, h2⟩
    | some ys =>
      have := recW_len _ 0 [] ys rfl hO.symm
      exact recsW_used f (used + (ys.length + 39) / 40) (acc ++ [ys]) (by omega) (by rw [List.length_append]; simp; omega)

theorem wrapI {n m : Int} (h : wrap64 n = m) : IntKind.i64.wrap n = m := by rw [IntKind.wrap_i64]; unfold wrap64 at h; exact h
theorem wrapE1 {e : Nat} (h : 1 ≤ e) (h2 : e ≤ 1152921504606846976) : wrap64 ((e : Int) - 1) = ((e - 1 : Nat) : Int) := by unfold wrap64; omega
theorem wrapN1 {e F : Nat} (hF : F = e + 1) (h2 : e ≤ 1152921504606846976) : wrap64 ((e : Int) + 1) = (F : Int) := by unfold wrap64; omega

theorem Rw.keepB {S : Nat → Prop} {w w' : World} {base : Nat} {v : Value} {recs : List (List Nat)} (h : Rw w base v recs) (k : Kp S w w') (hS : ∀ b, base ≤ b → ¬ S b) : Rw w' base v recs := by
  obtain ⟨vs, h1, h2, h3⟩ := h
  exact ⟨vs, ownsRow_keep h1 k (fun b e => hS b (ownBlock_lt h1 e).1), h2, fun i x u hx hu => ⟨ownsRow_keep (h3 i x u hx hu).1 k (fun b e => hS b (ownBlock_lt (h3 i x u hx hu).1 e).1), (h3 i x u hx hu).2⟩⟩
/-- what a cell holds -/
def oldW (z : World) (g i : Nat) : Value := (z.cell? ⟨g, i, none⟩).getD undef
theorem oldW_of {z : World} {g i : Nat} {v : Value} (h : z.cell? ⟨g, i, none⟩ = some v) : z.cell? ⟨g, i, none⟩ = some (oldW z g i) := by unfold oldW; rw [h]; rfl

/-- the plate behind a log was taken up again: the free sectors are cleaned, the new head is written -/
def OpD (w' : World) (bp d m n s : Nat) (dur : List Nat) (T : Nat → Option (List Nat)) (a b c e used : Nat) : Prop := ∃ (dur2 : List Nat) (X : Nat → List Nat), Pt w' bp d m n 0 dur2 (fun _ => none) ∧ Cln dur T s (c + used) (s - used) n X ∧ ∀ i, i < n → nowOf dur2 (fun _ => none) i = if i = a % 2 then hdB a b c e else X i
theorem OpD.keep {S : Nat → Prop} {w w' : World} {bp d m n s : Nat} {dur : List Nat} {T : Nat → Option (List Nat)} {a b c e used : Nat} (h : OpD w bp d m n s dur T a b c e used) (k : Kp S w w') (hb : ¬ S bp) (hd : ¬ S d) (hm : ¬ S m) : OpD w' bp d m n s dur T a b c e used := by
  obtain ⟨dur2, X, h1, h2, h3⟩ := h
  exact ⟨dur2, X, h1.keep k hb hd hm, h2, h3⟩

set_option maxRecDepth 100000 in
set_option maxHeartbeats 3200000 in
theorem resume_ok {w : World} {g bp d m n q s : Nat} {dur : List Nat} {T : Nat → Option (List Nat)} (h : Pt w bp d m n q dur T) (hq : (q : Int) ≤ 9000000000000000000) (hs : n = 2 + s ∧ 1 ≤ s) (A : H4) (fv : Value) (last : Int) (hl : Lv w g (walC bp s A fv last)) (hgd : g ≠ d) (hgm : g ≠ m) (hgb : bp ≠ g) (hgt : ¬ 0 = g ∧ ¬ 0 = d ∧ ¬ 0 = m) (a b c e : Nat) (ha : a + 1 ≤ 1152921504606846976) (hb : b + 1 ≤ 1152921504606846976) (hc : c ≤ 8192) (he : 1 ≤ e ∧ e + s ≤ 1152921504606846976) (ht : Turns w) :
    Calls Tryz.prog 95 #[.pointer (some ⟨g, 0, none⟩), headV a b c e] w fun e9 w' => ∃ v gf, e9 = .returned (.tuple #[v, .nilIface]) ∧ Kp (fun x => x = d ∨ x = m ∨ x = g) w w' ∧ Rw w' w.heap.size v (recsW (nowOf dur T) s c e (s + 1) 0 []).1 ∧ w.heap.size ≤ gf ∧ OpD w' bp d m n s dur T (a + 1) (b + 1) c e (recsW (nowOf dur T) s c e (s + 1) 0 []).2 ∧ Wl w' g bp s gf ⟨((a + 1 : Nat) : Int), ((b + 1 : Nat) : Int), c, e⟩ ((e - 1 + (recsW (nowOf dur T) s c e (s + 1) 0 []).1.length : Nat) : Int) (c + (recsW (nowOf dur T) s c e (s + 1) 0 []).2) (s - (recsW (nowOf dur T) s c e (s + 1) 0 []).2) := by
  obtain ⟨aa, ab, ac, ad⟩ := A
  obtain ⟨a1, ha1⟩ : ∃ a1, a1 = a + 1 := ⟨_, rfl⟩
  obtain ⟨b1, hb1⟩ : ∃ b1, b1 = b + 1 := ⟨_, rfl⟩
  have HAB : Hid (a1 = a + 1 ∧ b1 = b + 1) := ⟨ha1, hb1⟩
  rw [← ha1, ← hb1]
  clear ha1 hb1
  have hU := recsW_used (rd := nowOf dur T) (s := s) (place := c) (first := e) (s + 1) 0 [] (Nat.zero_le _) (Nat.le_refl _)
  have HRs : Hid (∀ u, Kp (fun _ => False) w u → Calls _ _ _ u _) := fun u k => records_ok (h.keep0 k) hs a b c e (by omega) (by omega) (fun j hj => k.cellv (ht j hj) id)
  obtain ⟨R, hR⟩ : ∃ R, R = recsW (nowOf dur T) s c e (s + 1) 0 [] := ⟨_, rfl⟩
  rw [← hR] at HRs hU ⊢
  clear hR
  obtain ⟨recs, us⟩ := R
  have HU : Hid (us ≤ s ∧ recs.length ≤ us) := hU
  have HP : Hid (Pt w bp d m n q dur T) := h
  have HT : Hid (Turns w) := ht
  have HLg : Hid (Lv w g (walC bp s ⟨aa, ab, ac, ad⟩ fv last)) := hl
  have HN : Hid (n = 2 + s ∧ 1 ≤ s ∧ n ≤ 8192 ∧ (q : Int) ≤ 9000000000000000000 ∧ a + 1 ≤ 1152921504606846976 ∧ b + 1 ≤ 1152921504606846976 ∧ c ≤ 8192 ∧ 1 ≤ e ∧ e + s ≤ 1152921504606846976) := ⟨hs.1, hs.2, h.n2, hq, ha, hb, hc, he.1, he.2⟩
  have HG : Hid (g ≠ d ∧ g ≠ m ∧ bp ≠ g ∧ g < w.heap.size ∧ d < w.heap.size ∧ m < w.heap.size) := ⟨hgd, hgm, hgb, hl.lt (by simp), h.row.lt, h.mp.lt⟩
  have HGt : Hid (¬ 0 = g ∧ ¬ 0 = d ∧ ¬ 0 = m) := hgt
  obtain ⟨r, hr⟩ : ∃ r, r = w.heap.size := ⟨_, rfl⟩
  obtain ⟨w0, hw0⟩ : ∃ y, y = w.alloc (.cells #[.int .i64 (a : Int), .int .i64 (b : Int), .int .i64 (c : Int), .int .i64 (e : Int)] 134) := ⟨_, rfl⟩
  have HK0 : Hid (Kp (fun _ => False) w w0) := by rw [hw0]; exact (Kp.refl _ _).alloc _
  have HH0 : Hid (Lv w0 r (H4.cells ⟨a, b, c, e⟩)) := by rw [hw0, hr]; exact Lv.new _ _ _
  have HL0 : Hid (Lv w0 g (walC bp s ⟨aa, ab, ac, ad⟩ fv last)) := hl.keep HK0.out id
  have HR : Hid (r = w.heap.size ∧ w0.heap.size = w.heap.size + 1) := ⟨hr, by rw [hw0]; simp⟩
  have p0 := HH0.out.cell (j := 0) rfl
  have p1 := HH0.out.cell (j := 1) rfl
  have p2 := HH0.out.cell (j := 2) rfl
  have p3 := HH0.out.cell (j := 3) rfl
  have v0 := HL0.out.cell (j := 0) rfl
  have v1 := HL0.out.cell (j := 1) rfl
  have hnn := nil_neq
  have HSS : Hid (∀ z, Kp (fun _ => False) w0 z → Kp (fun _ => False) w0 z ∧ z.cell? ⟨g, 0, none⟩ = some (.pointer (some ⟨bp, 0, none⟩)) ∧ z.cell? ⟨g, 1, none⟩ = some (.int .i64 (s : Int)) ∧ z.cell? ⟨r, 0, none⟩ = some (.int .i64 (a : Int)) ∧ z.cell? ⟨r, 1, none⟩ = some (.int .i64 (b : Int)) ∧ z.cell? ⟨r, 2, none⟩ = some (.int .i64 (c : Int)) ∧ z.cell? ⟨r, 3, none⟩ = some (.int .i64 (e : Int))) := fun z kz => ⟨kz, kz.cellv v0 id, kz.cellv v1 id, kz.cellv p0 id, kz.cellv p1 id, kz.cellv p2 id, kz.cellv p3 id⟩
  have HTr : Hid (∀ u u' : World, Kp (fun _ => False) w0 u → Kp (fun _ => False) u u' → Kp (fun _ => False) w0 u') := fun u u' h1 h2 => h1.trans h2 (fun _ _ e => e)
  clear h hq hs hl hgd hgm hgb hgt ha hb hc he ht hU
  go_enter Tryz.func95, Tryz.ntmps95
  go_upto_region 1 with fail
  rw [← hw0, ← hr]
  clear hw0 hr
  have kd : Kp (fun _ => False) w0 w0.drew := (Kp.refl _ _).drew
  go_region_held3 (fun z => Kp (fun _ => False) w0 z ∧ z.cell? ⟨g, 0, none⟩ = some (.pointer (some ⟨bp, 0, none⟩)) ∧ z.cell? ⟨g, 1, none⟩ = some (.int .i64 (s : Int)) ∧ z.cell? ⟨r, 0, none⟩ = some (.int .i64 (a : Int)) ∧ z.cell? ⟨r, 1, none⟩ = some (.int .i64 (b : Int)) ∧ z.cell? ⟨r, 2, none⟩ = some (.int .i64 (c : Int)) ∧ z.cell? ⟨r, 3, none⟩ = some (.int .i64 (e : Int)))
    (first
      | exact HSS.out _ kd
      | exact HSS.out _ kw1)
    (first
      | (go_at_call 146; refine (HRs.out _ (HK0.out.trans kd (fun _ _ e => e))).mono ?_; rintro e9 w1 ⟨v, rfl, k1, rw1⟩; have kw1 := HTr.out _ _ kd k1))
  all_goals
    have HK1 : Hid (Kp (fun _ => False) w0 w1) := kw1
    have HRw : Hid (Rw w1 w0.heap.size v recs) := rw1.base kd.size
    clear kw1 k1 rw1 kd HRs p0 p1 p2 p3 v0 v1
    obtain ⟨L, hL⟩ : ∃ L, L = recs.length := ⟨_, rfl⟩
    obtain ⟨pv, cv, hv⟩ : ∃ p c, v = .slice p L c := by
      obtain ⟨vs, hvs1, _⟩ := HRw.out
      rw [hL]
      rcases Joins.ownsRow_forms hvs1 with ⟨e1, e2⟩ | ⟨g, c, e⟩
      · exact ⟨none, 0, by rw [e1, e2]⟩
      · exact ⟨_, c, e⟩
    subst hv
    obtain ⟨E, hE⟩ : ∃ E, E = c + us := ⟨_, rfl⟩
    obtain ⟨KK, hKK⟩ : ∃ KK, KK = s - us := ⟨_, rfl⟩
    obtain ⟨LL, hLL⟩ : ∃ LL, LL = e - 1 + L := ⟨_, rfl⟩
    obtain ⟨e1, he1⟩ : ∃ e1, e1 = e - 1 := ⟨_, rfl⟩
    have HE : Hid (E = c + us ∧ KK = s - us ∧ LL = e1 + L ∧ e1 = e - 1 ∧ L = recs.length) := ⟨hE, hKK, by rw [hLL, he1], he1, hL⟩
    have HW : Hid (wrap64 ((c : Int) + (us : Int)) = (E : Int) ∧ wrap64 ((s : Int) - (us : Int)) = (KK : Int) ∧ wrap64 ((e : Int) - 1) = (e1 : Int) ∧ wrap64 ((e1 : Int) + (L : Int)) = (LL : Int)) := ⟨(wrapPl hE (by have := HN.out; have := HU.out; omega)).1, wrapSU hKK HU.out.1 (by have := HN.out; omega), by rw [he1]; exact wrapE1 HN.out.2.2.2.2.2.2.2.1 (by have := HN.out; omega), wrapFL HE.out.2.2.1 (by have := HN.out; have := HU.out; have := HE.out; omega)⟩
    have HTr4 : Hid (∀ u u' : World, Kp (fun _ => False) w1 u → Kp (fun _ => False) u u' → Kp (fun _ => False) w1 u') := fun u u' h1 h2 => h1.trans h2 (fun _ _ e => e)
    have HPl : Hid (∀ u, Calls _ _ _ u _) := fun u => placesFrom_ok E KK u (by have := HN.out; have := HE.out; omega) (by have := HN.out; have := HU.out; have := HE.out; omega)
    have HL1 : Hid (Lv w1 g (walC bp s ⟨aa, ab, ac, ad⟩ fv last)) := HL0.out.keep HK1.out id
    have HH1 : Hid (Lv w1 r (H4.cells ⟨a, b, c, e⟩)) := HH0.out.keep HK1.out id
    have v1 := HL1.out.cell (j := 1) rfl
    have p2 := HH1.out.cell (j := 2) rfl
    have v6 := HL1.out.cell (j := 6) rfl
    have hrg : r ≠ g := by have := HR.out; have := HG.out; omega
    have HS4 : Hid (∀ z, Kp (fun _ => False) w1 z → Kp (fun b => b = g) w1 z ∧ z.cell? ⟨g, 1, none⟩ = some (.int .i64 (s : Int)) ∧ z.cell? ⟨r, 2, none⟩ = some (.int .i64 (c : Int)) ∧ z.cell? ⟨g, 6, none⟩ = some (oldW z g 6) ∧ z.frozen? ⟨g, 6, none⟩ = false) := fun z kz => ⟨kz.mono (fun _ _ e => e.elim), kz.cellv v1 id, kz.cellv p2 id, oldW_of (kz.cellv v6 id), (HL1.out.keep kz id).fz (j := 6) (show 6 < 8 by decide)⟩
    have HSt : Hid (∀ (z : World) (v : Value), (Kp (fun b => b = g) w1 z ∧ z.cell? ⟨g, 1, none⟩ = some (.int .i64 (s : Int)) ∧ z.cell? ⟨r, 2, none⟩ = some (.int .i64 (c : Int)) ∧ z.cell? ⟨g, 6, none⟩ = some (oldW z g 6) ∧ z.frozen? ⟨g, 6, none⟩ = false) → Kp (fun b => b = g) w1 (z.setCell ⟨g, 6, none⟩ v) ∧ (z.setCell ⟨g, 6, none⟩ v).cell? ⟨g, 1, none⟩ = some (.int .i64 (s : Int)) ∧ (z.setCell ⟨g, 6, none⟩ v).cell? ⟨r, 2, none⟩ = some (.int .i64 (c : Int)) ∧ (z.setCell ⟨g, 6, none⟩ v).cell? ⟨g, 6, none⟩ = some (oldW (z.setCell ⟨g, 6, none⟩ v) g 6) ∧ (z.setCell ⟨g, 6, none⟩ v).frozen? ⟨g, 6, none⟩ = false) := fun z v ⟨h1, h2, h3, h4, h5⟩ => ⟨h1.trans kp_set (fun _ _ e => e), by rw [World.cell?_setCell_other _ _ _ _ (by simp)]; exact h2, by rw [World.cell?_setCell_other _ _ _ _ (by simp [Ne.symm hrg])]; exact h3, oldW_of (v := v) (by rw [World.cell?_setCell_same _ _ _ h4]), by rw [World.frozen?_setCell]; exact h5⟩
    obtain ⟨hw1, hw2, hw3, hw4⟩ := HW.out
    have hw5 : IntKind.i64.wrap ((c : Int) + (us : Int)) = (E : Int) := wrapI hw1
    have hw6 : IntKind.i64.wrap ((s : Int) - (us : Int)) = (KK : Int) := wrapI hw2
    clear hL hE hKK hLL he1 v6 hrg
    go_simp
    go_upto_region 4 with fail
    have kd : Kp (fun _ => False) w1 w1.drew := (Kp.refl _ _).drew
    go_region_held3 (fun z => Kp (fun b => b = g) w1 z ∧ z.cell? ⟨g, 1, none⟩ = some (.int .i64 (s : Int)) ∧ z.cell? ⟨r, 2, none⟩ = some (.int .i64 (c : Int)) ∧ z.cell? ⟨g, 6, none⟩ = some (oldW z g 6) ∧ z.frozen? ⟨g, 6, none⟩ = false)
      (first
        | exact HS4.out _ kd
        | exact HS4.out _ kw2
        | exact HSt.out _ _ (by assumption))
      (first
        | (go_at_call 144; refine (HPl.out _).mono ?_; rintro e9 wA ⟨gf, cap, l, hgf, rfl, kA, owA, frA⟩; have kw2 := HTr4.out _ _ kd kA))
    all_goals
      obtain ⟨w5, hw5⟩ : ∃ y, y = wA.setCell ⟨g, 6, none⟩ (.slice (some ⟨gf, 0, none⟩) KK cap) := ⟨_, rfl⟩
      have k5 : Kp (fun b => b = g) wA w5 := by rw [hw5]; exact kp_set
      have HKA : Hid (Kp (fun _ => False) w w1 ∧ Kp (fun b => b = g) w1 w5) := ⟨HK0.out.trans HK1.out (fun _ _ e => e), (kw2.mono (fun _ _ e => e.elim)).trans k5 (fun _ _ e => e)⟩
      have HL5 : Hid (Lv w5 g (walC bp s ⟨aa, ab, ac, ad⟩ (.slice (some ⟨gf, 0, none⟩) KK cap) last)) := by rw [hw5]; exact (HL1.out.keep kw2 id).set1 6 _ (by simp)
      have hgf1 : w1.heap.size ≤ gf := Nat.le_trans kd.size hgf
      have HGf : Hid (w.heap.size < gf ∧ gf ≠ g ∧ Free l E KK) := ⟨by have := HK1.out.size; have := HR.out; omega, by have := HK1.out.size; have := HR.out; have := HG.out; omega, frA⟩
      have HO5 : Hid (w5.ownsRow 0 3 1 (.slice (some ⟨gf, 0, none⟩) KK cap) KK (nls l)) := ownsRow_keep owA k5 (fun g' e9 e2 => by have e' : some gf = some g' := e9; injection e' with e'; have := HGf.out.2.1; omega)
      have hrg : r ≠ g := by have := HR.out; have := HG.out; omega
      have HH5 : Hid (Lv w5 r (H4.cells ⟨a, b, c, e⟩)) := (HH1.out.keep kw2 id).keep k5 hrg
      clear kd kw2 kA owA frA hgf k5 hgf1 HPl HS4 HSt v1 p2 hw1 hw2 hw6 HTr4
      have v7 := HL5.out.cell (j := 7) rfl
      have f7 := HL5.out.fz (j := 7) (show 7 < 8 by decide)
      have p3 : w5.cell? ⟨r, 3, none⟩ = some (.int .i64 (e : Int)) := HH5.out.cell (j := 3) rfl
      go_simp
      rw [← hw5]
      clear hw5
      go_upto_region 6 with fail
      obtain ⟨w6, hw6⟩ : ∃ y, y = w5.setCell ⟨g, 7, none⟩ (.int .i64 (LL : Int)) := ⟨_, rfl⟩
      have k6 : Kp (fun b => b = g) w5 w6 := by rw [hw6]; exact kp_set
      have HK6 : Hid (Kp (fun b => b = g) w1 w6) := HKA.out.2.trans k6 (fun _ _ e => e)
      have HKw6 : Hid (Kp (fun b => b = g) w w6) := (HKA.out.1.mono (fun _ _ e => e.elim)).trans HK6.out (fun _ _ e => e)
      have HL6 : Hid (Lv w6 g (walC bp s ⟨aa, ab, ac, ad⟩ (.slice (some ⟨gf, 0, none⟩) KK cap) (LL : Int))) := by rw [hw6]; exact HL5.out.set1 7 _ (by simp)
      have HO6 : Hid (w6.ownsRow 0 3 1 (.slice (some ⟨gf, 0, none⟩) KK cap) KK (nls l)) := ownsRow_keep HO5.out k6 (fun g' e9 e2 => by have e' : some gf = some g' := e9; injection e' with e'; have := HGf.out.2.1; omega)
      have HH6 : Hid (Lv w6 r (H4.cells ⟨a, b, c, e⟩)) := HH5.out.keep k6 hrg
      have HP6 : Hid (Pt w6 bp d m n q dur T) := HP.out.keep HKw6.out HG.out.2.2.1 (fun e => HG.out.1 e.symm) (fun e => HG.out.2.1 e.symm)
      have HCl : Hid (∀ u, Kp (fun _ => False) w6 u → Calls _ _ _ u _) := fun u ku => clean_ok (HP6.out.keep0 ku) ⟨HN.out.1, HN.out.2.1⟩ HN.out.2.2.2.1 (k := KK) (e := E) (by have := HN.out; have := HE.out; omega) (by have := HN.out; have := HU.out; have := HE.out; omega) (ownsRow_keep HO6.out ku (fun _ _ e => e)) HGf.out.2.2
      have v0 := HL6.out.cell (j := 0) rfl
      have v1 := HL6.out.cell (j := 1) rfl
      have v6 := HL6.out.cell (j := 6) rfl
      have HS6 : Hid (∀ z, Kp (fun x => x = d ∨ x = m) w6 z → Kp (fun x => x = d ∨ x = m) w6 z ∧ z.cell? ⟨g, 0, none⟩ = some (.pointer (some ⟨bp, 0, none⟩)) ∧ z.cell? ⟨g, 1, none⟩ = some (.int .i64 (s : Int)) ∧ z.cell? ⟨g, 6, none⟩ = some (.slice (some ⟨gf, 0, none⟩) KK cap)) := fun z kz => ⟨kz, kz.cellv v0 (fun e => e.elim HG.out.1 HG.out.2.1), kz.cellv v1 (fun e => e.elim HG.out.1 HG.out.2.1), kz.cellv v6 (fun e => e.elim HG.out.1 HG.out.2.1)⟩
      have HT6 : Hid (∀ u u' : World, Kp (fun _ => False) w6 u → Kp (fun x => x = d ∨ x = m) u u' → Kp (fun x => x = d ∨ x = m) w6 u') := fun u u' h1 h2 => (h1.mono (fun _ _ e => e.elim)).trans h2 (fun _ _ e => e)
      rw [← hw6]
      clear hw6 k6 v7 f7 p3 hw3 hw4 hw5 HKA HL5 HO5 HH5 HP6 HL0 HH0 HH1 HL1 HSS HTr v0 v1 v6
      have kd : Kp (fun _ => False) w6 w6.drew := (Kp.refl _ _).drew
      have kD : Kp (fun x => x = d ∨ x = m) w6 w6.drew := (Kp.refl _ _).drew
      go_region_held3 (fun z => Kp (fun x => x = d ∨ x = m) w6 z ∧ z.cell? ⟨g, 0, none⟩ = some (.pointer (some ⟨bp, 0, none⟩)) ∧ z.cell? ⟨g, 1, none⟩ = some (.int .i64 (s : Int)) ∧ z.cell? ⟨g, 6, none⟩ = some (.slice (some ⟨gf, 0, none⟩) KK cap))
        (first
          | exact HS6.out _ kD
          | exact HS6.out _ kw7)
        (first
          | (go_at_call 147; refine (HCl.out _ kd).mono ?_; rintro e9 w7 ⟨rfl, k7, dur3, p7, c7⟩; have kw7 := HT6.out _ _ kd k7))
      all_goals
        have HK7 : Hid (Kp (fun x => x = d ∨ x = m) w6 w7) := kw7
        have HP7 : Hid (Pt w7 bp d m n 0 dur3 (fun _ => none)) := p7
        have HC7 : Hid (Cln dur T s E KK n (nowOf dur3 (fun _ => none))) := c7
        have hrd : ¬ (r = d ∨ r = m) := by have := HR.out; have := HG.out; omega
        have HL7 : Hid (Lv w7 g (walC bp s ⟨aa, ab, ac, ad⟩ (.slice (some ⟨gf, 0, none⟩) KK cap) (LL : Int))) := HL6.out.keep kw7 (fun e => e.elim HG.out.1 HG.out.2.1)
        have HH7 : Hid (Lv w7 r (H4.cells ⟨a, b, c, e⟩)) := HH6.out.keep kw7 hrd
        have HO7 : Hid (w7.ownsRow 0 3 1 (.slice (some ⟨gf, 0, none⟩) KK cap) KK (nls l)) := ownsRow_keep HO6.out kw7 (fun g' e9 e2 => by have e' : some gf = some g' := e9; injection e' with e'; have := HGf.out.1; have := HG.out; omega)
        clear kd kD kw7 k7 p7 c7 HS6 HT6 HCl HL6 HH6 HO6 hrd
        have wa := wrapN1 HAB.out.1 (by have := HN.out; omega)
        have wb := wrapN1 HAB.out.2 (by have := HN.out; omega)
        have p0 : w7.cell? ⟨r, 0, none⟩ = some (.int .i64 (a : Int)) := HH7.out.cell (j := 0) rfl
        have p1 : w7.cell? ⟨r, 1, none⟩ = some (.int .i64 (b : Int)) := HH7.out.cell (j := 1) rfl
        have p2 : w7.cell? ⟨r, 2, none⟩ = some (.int .i64 (c : Int)) := HH7.out.cell (j := 2) rfl
        have p3 : w7.cell? ⟨r, 3, none⟩ = some (.int .i64 (e : Int)) := HH7.out.cell (j := 3) rfl
        have f0 := HH7.out.fz (j := 0) (show 0 < 4 by decide)
        have f1 := HH7.out.fz (j := 1) (show 1 < 4 by decide)
        go_simp
        go_upto_region 11 with fail
        obtain ⟨w8, hw8⟩ : ∃ y, y = (w7.setCell ⟨r, 0, none⟩ (.int .i64 (a1 : Int))).setCell ⟨r, 1, none⟩ (.int .i64 (b1 : Int)) := ⟨_, rfl⟩
        have HK8 : Hid (Kp (fun x => x = r) w7 w8) := by rw [hw8]; exact kp_set.trans kp_set (fun _ _ e => e)
        have HH8 : Hid (Lv w8 r [.int .i64 (a1 : Int), .int .i64 (b1 : Int), .int .i64 (c : Int), .int .i64 (e : Int)]) := by rw [hw8]; exact (HH7.out.set1 0 _ (by simp)).set1 1 _ (by simp)
        rw [← hw8]
        clear hw8 p0 p1 p2 p3 f0 f1 wa wb
        have HLt : Hid (w.heap.size < w8.heap.size) := by have h1 := HK8.out.size; have h2 := HK7.out.size; have h3 := HK6.out.size; have h4 := HK1.out.size; have := HR.out; show _ < _; omega
        have HL8 : Hid (Lv w8 g (walC bp s ⟨aa, ab, ac, ad⟩ (.slice (some ⟨gf, 0, none⟩) KK cap) (LL : Int))) := HL7.out.keep HK8.out (fun e => by have := HR.out; have := HG.out; omega)
        have HP8 : Hid (Pt w8 bp d m n 0 dur3 (fun _ => none)) := HP7.out.keep HK8.out (fun e => by have := HP.out.lt; have := HR.out; omega) (fun e => by have := HR.out; have := HG.out; omega) (fun e => by have := HR.out; have := HG.out; omega)
        have HO8 : Hid (w8.ownsRow 0 3 1 (.slice (some ⟨gf, 0, none⟩) KK cap) KK (nls l)) := ownsRow_keep HO7.out HK8.out (fun g' e9 e2 => by have e' : some gf = some g' := e9; injection e' with e'; have := HGf.out.1; have := HR.out; omega)
        have HKw8 : Hid (Kp (fun x => x = d ∨ x = m ∨ x = g ∨ x = r) w w8) := (((HKw6.out.mono (fun _ _ e => Or.inr (Or.inr (Or.inl e)))).trans HK7.out (fun _ _ e => e.elim Or.inl (fun e => Or.inr (Or.inl e)))).trans HK8.out (fun _ _ e => Or.inr (Or.inr (Or.inr e))))
        have HTn : Hid (Calls _ _ _ w8 _) := turn_ok HP8.out (by decide) (by have := HN.out; omega) s ⟨aa, ab, ac, ad⟩ _ _ HL8.out HG.out.1 HG.out.2.1 HG.out.2.2.1 a1 b1 c e (by have := HN.out; have := HAB.out; omega) (by have := HN.out; have := HAB.out; omega) (by have := HN.out; omega) (by have := HN.out; omega) (fun j hj => HKw8.out.cellv (HT.out j hj) (fun e9 => by
          have e' : (0 : Nat) = d ∨ (0 : Nat) = m ∨ (0 : Nat) = g ∨ (0 : Nat) = r := e9
          have h1 := HGt.out
          have h2 : (0 : Nat) < w.heap.size := World.block_lt_of_cell? _ _ (HT.out 0 (by decide))
          have := HR.out
          omega))
        have HRw8 : Hid (Rw w8 w0.heap.size (.slice pv L cv) recs) := ((HRw.out.keepB HK6.out (fun b hb e9 => by have e' : b = g := e9; have := HR.out; have := HG.out; omega)).keepB HK7.out (fun b hb e9 => by have e' : b = d ∨ b = m := e9; have := HR.out; have := HG.out; omega)).keepB HK8.out (fun b hb e9 => by have e' : b = r := e9; have := HR.out; omega)
        have q0 := HH8.out.cell (j := 0) rfl
        have q1 := HH8.out.cell (j := 1) rfl
        have q2 := HH8.out.cell (j := 2) rfl
        have q3 := HH8.out.cell (j := 3) rfl
        clear HK6 HKw6 HK7 HL7 HH7 HO7 HP7
        go_wp2_with fail
        refine HTn.out.mono ?_
        rintro e9 w9 ⟨rfl, k9, p9, l9⟩
        have HF : Hid (Kp (fun x => x = d ∨ x = m ∨ x = g) w w9 ∧ Rw w9 w.heap.size (.slice pv L cv) recs ∧ w.heap.size ≤ gf ∧ OpD w9 bp d m n s dur T a1 b1 c e us ∧ Wl w9 g bp s gf ⟨(a1 : Int), (b1 : Int), c, e⟩ ((e - 1 + recs.length : Nat) : Int) (c + us) (s - us)) := by
          have hE := HE.out
          refine ⟨(HKw8.out.mono (S' := fun x => x = d ∨ x = m ∨ x = g) (fun b hb e9 => by have e' : b = d ∨ b = m ∨ b = g ∨ b = r := e9; have := HR.out; show b = d ∨ b = m ∨ b = g; omega)).trans k9 (fun _ _ e => e), (HRw8.out.keepB k9 (fun b hb e9 => by have e' : b = d ∨ b = m ∨ b = g := e9; have := HR.out; have := HG.out; omega)).base (by have := HR.out; omega), by have := HGf.out.1; omega, ⟨_, _, p9, ?_, fun i hi => nowOf_wrHead HP8.out.len (fun _ _ h => by cases h) (hdB_len _ _ _ _) hi⟩, ⟨⟨cap, l, ?_, ?_, ?_⟩, HGf.out.2.1⟩⟩
          · rw [← hE.1, ← hE.2.1]; exact HC7.out
          · rw [← hE.2.1, show ((e - 1 + recs.length : Nat) : Int) = (LL : Int) by omega]; exact l9
          · rw [← hE.2.1]; exact ownsRow_keep HO8.out k9 (fun g' e9 e2 => by have e' : some gf = some g' := e9; injection e' with e'; have e3 : g' = d ∨ g' = m ∨ g' = g := e2; have := HGf.out; have := HG.out; omega)
          · rw [← hE.1, ← hE.2.1]; exact HGf.out.2.2
        clear k9 p9 l9 HTn q0 q1 q2 q3
        go_wp2
        go_ret2
        exact ⟨_, gf, rfl, HF.out⟩
end Go.Proofs.YtippipeebkkghaaGreatDoor
