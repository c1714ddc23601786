/- The walk of the law MatrixTells: products, inverses and rows, of anything; what is handed in stays. -/
import Derived.Test.YtelbnflmchgjlaaDoorM19
import Derived.Test.YtelbnflmchgjlaaDoorLiv
import Derived.Test.YtelbnflmchgjlaaDoorFx
namespace Go.Proofs.YtelbnflmchgjlaaDoor
open Go.RowKit Go.Deep

/-- an answer: a matrix, or nothing and an error -/
def Ans (w : World) (v : Value) (c : Int) (n m : Nat) (M : Nat → Nat → Nat) : Prop := (c = 0 ∧ Mx w v n m M) ∨ (c ≠ 0 ∧ v = .slice none 0 0)
theorem Ans.keep {w w' : World} {v : Value} {c : Int} {n m : Nat} {M : Nat → Nat → Nat} (h : Ans w v c n m M) (k : Kp (fun _ => False) w w') : Ans w' v c n m M := by
  rcases h with ⟨h1, h2⟩ | h
  · exact Or.inl ⟨h1, h2.keep k⟩
  · exact Or.inr h
theorem Ans.same {w : World} {v u : Value} {c : Int} {n m : Nat} {M : Nat → Nat → Nat} (h : Ans w v c n m M) (g : Ans w u c n m M) (hn : n ≤ 1000000) : Calls Tryd.prog 13 #[v, u] w fun e w' => e = .returned (.bool true) ∧ w' = w := by
  rcases h with ⟨h1, h2⟩ | ⟨h1, rfl⟩
  · rcases g with ⟨_, g2⟩ | ⟨g1, _⟩
    · exact sameX v u n m M M w h2 g2 (fun _ _ _ _ => rfl) hn
    · exact absurd h1 g1
  · rcases g with ⟨g1, _⟩ | ⟨_, rfl⟩
    · exact absurd g1 h1
    · exact sameNil w
theorem Gath.mx {w wr : World} {v : Value} {n r : Nat} {B : Nat → Nat} {M : Nat → Nat → Nat} (h : Gath w wr v n r B M) (hr : 0 < r) (hM : ∀ i j, M i j < 256) : Mx wr v r n M := by
  obtain ⟨t, cap, rfl, _, hMt⟩ := h.mt hr hM
  exact hMt.mx cap
theorem Mo.mx {w : World} {t cap n : Nat} {B C : Nat → Nat} {M : Nat → Nat → Nat} (h : Mo w t B C n M) (hb : ∀ i j, M i j < 256) : Mx w (.slice (some ⟨t, 0, none⟩) n cap) n n M :=
  ⟨⟨some ⟨t, 0, none⟩, n, cap, t, 0, fun r => some ⟨B r, 0, none⟩, fun _ => n, C, B, fun _ => 0, M⟩, rfl,
    ⟨fun _ => rfl, fun r hr => by have := h.top.cell hr; simpa using this, fun _ _ _ _ => rfl, fun r hr c hc => by have := (h.row r hr).cell hc; simpa using this, hb⟩, rfl, fun _ _ => rfl, rfl⟩

theorem mulU (s t : Sh) : ∃ (c : Int) (n m : Nat) (M : Nat → Nat → Nat), n ≤ 1000000 ∧ ∀ (s' t' : Sh) (w : World), s'.G = s.G → s'.L = s.L → s'.M = s.M → t'.G = t.G → t'.L = t.L → t'.M = t.M → Rd w s' → Rd w t' →
    (Pows w → Calls Tryd.prog 27 #[.slice s'.g s'.G s'.cap, .slice t'.g t'.G t'.cap] w fun e w' => ∃ v, e = .returned (.tuple #[v, .int .i64 c]) ∧ Kp (fun _ => False) w w' ∧ Ans w' v c n m M) ∧
    (Calls Tryd.prog 28 #[.slice s'.g s'.G s'.cap, .slice t'.g t'.G t'.cap] w fun e w' => ∃ v, e = .returned (.tuple #[v, .int .i64 c]) ∧ Kp (fun _ => False) w w' ∧ Ans w' v c n m M) := by
  by_cases h : isM s = true ∧ isM t = true ∧ s.L 0 = t.G
  · obtain ⟨a1, a2, _⟩ := isM_true h.1
    refine ⟨0, s.G, t.L 0, fun r k => prodTo s.M t.M t.G r k, by omega, fun s' t' w e1 e2 e3 f1 f2 f3 hs ht => ?_⟩
    have ms : isM s' = true := by rw [← h.1]; unfold isM; rw [e1, e2]
    have mt : isM t' = true := by rw [← h.2.1]; unfold isM; rw [f1, f2]
    have hst : s'.L 0 = t'.G := by rw [e2, f1]; exact h.2.2
    refine ⟨fun hp => (mul_ok s' t' w hs ht ms mt hst hp).mono ?_, (refMul_ok s' t' w hs ht ms mt hst).mono ?_⟩
    · rintro e w' ⟨rfl, hK, _, hM⟩
      rw [f2, e3, f3, f1, e1] at hM
      rw [e1]
      exact ⟨_, rfl, hK, Or.inl ⟨rfl, hM.mx⟩⟩
    · rintro e w' ⟨v, B, rfl, hGa⟩
      rw [f2, e3, f3, f1, e1] at hGa
      exact ⟨v, rfl, hGa.kept, Or.inl ⟨rfl, hGa.mx (by omega) (fun i j => prodTo_lt _ _ _ _ _)⟩⟩
  · refine ⟨1, 0, 0, fun _ _ => 0, by omega, fun s' t' w e1 e2 e3 f1 f2 f3 hs ht => ?_⟩
    have h' : ¬ (isM s' = true ∧ isM t' = true ∧ s'.L 0 = t'.G) := by
      rw [show isM s' = isM s from by unfold isM; rw [e1, e2], show isM t' = isM t from by unfold isM; rw [f1, f2], e2, f1]; exact h
    refine ⟨fun _ => (mul_no s' t' w hs ht h').mono ?_, (refMul_no s' t' w hs ht h').mono ?_⟩
    · rintro e w' ⟨rfl, rfl⟩; exact ⟨_, rfl, Kp.refl _ _, Or.inr ⟨by omega, rfl⟩⟩
    · rintro e w' ⟨rfl, rfl⟩; exact ⟨_, rfl, Kp.refl _ _, Or.inr ⟨by omega, rfl⟩⟩

theorem invU (s : Sh) (hb : ∀ i j, s.M i j < 256) : ∃ (c : Int) (n : Nat) (M : Nat → Nat → Nat), n ≤ 1000000 ∧ ∀ (s' : Sh) (w : World), s'.G = s.G → s'.L = s.L → s'.M = s.M → Rd w s' →
    (Pows w → Calls Tryd.prog 23 #[.slice s'.g s'.G s'.cap] w fun e w' => ∃ v, e = .returned (.tuple #[v, .int .i64 c]) ∧ Kp (fun _ => False) w w' ∧ Ans w' v c n n M) ∧
    (Calls Tryd.prog 24 #[.slice s'.g s'.G s'.cap] w fun e w' => ∃ v, e = .returned (.tuple #[v, .int .i64 c]) ∧ Kp (fun _ => False) w w' ∧ Ans w' v c n n M) := by
  by_cases h : isM s = true ∧ s.G = s.L 0
  · obtain ⟨a1, a2, a3, a4, a5⟩ := isM_true h.1
    by_cases hE : ∃ W, El s.M s.G s.G W
    · obtain ⟨W, hW⟩ := hE
      refine ⟨0, s.G, right W s.G, by omega, fun s' w e1 e2 e3 hs => ?_⟩
      have hL : ∀ r, r < s.G → s'.L r = s.G := fun r hr => by rw [e2, a5 r hr]; exact h.2.symm
      have hWb : ∀ i j, right W s.G i j < 256 := fun i j => (hW.keeps hb).byte _ _
      rw [e1]
      refine ⟨fun hp => (invert_any s' s.G w hs e1 hL (by omega) (by omega) hp).mono ?_, (refInvert_any s' s.G w hs e1 hL (by omega) (by omega)).mono ?_⟩
      · rw [e3]
        rintro e w' ⟨hK, ⟨rfl, i, V, hi, hEi, hno⟩ | ⟨t, B, V, rfl, hV, hM⟩⟩
        · exact (El.fails hEi hi hno hW).elim
        · obtain rfl := hW.unique hV
          exact ⟨_, rfl, hK, Or.inl ⟨rfl, hM.mx⟩⟩
      · rw [e3]
        rintro e w' ⟨hK, ⟨rfl, i, V, hi, hEi, hno⟩ | ⟨to, cap, B, C, V, rfl, hV, hM⟩⟩
        · exact (El.fails hEi hi hno hW).elim
        · obtain rfl := hW.unique hV
          exact ⟨_, rfl, hK, Or.inl ⟨rfl, hM.mx hWb⟩⟩
    · refine ⟨20, 0, fun _ _ => 0, by omega, fun s' w e1 e2 e3 hs => ?_⟩
      have hL : ∀ r, r < s.G → s'.L r = s.G := fun r hr => by rw [e2, a5 r hr]; exact h.2.symm
      rw [e1]
      refine ⟨fun hp => (invert_any s' s.G w hs e1 hL (by omega) (by omega) hp).mono ?_, (refInvert_any s' s.G w hs e1 hL (by omega) (by omega)).mono ?_⟩
      · rw [e3]
        rintro e w' ⟨hK, ⟨rfl, _⟩ | ⟨t, B, V, rfl, hV, hM⟩⟩
        · exact ⟨_, rfl, hK, Or.inr ⟨by omega, rfl⟩⟩
        · exact (hE ⟨V, hV⟩).elim
      · rw [e3]
        rintro e w' ⟨hK, ⟨rfl, _⟩ | ⟨to, cap, B, C, V, rfl, hV, hM⟩⟩
        · exact ⟨_, rfl, hK, Or.inr ⟨by omega, rfl⟩⟩
        · exact (hE ⟨V, hV⟩).elim
  · refine ⟨1, 0, fun _ _ => 0, by omega, fun s' w e1 e2 e3 hs => ?_⟩
    have h' : ¬ (isM s' = true ∧ s'.G = s'.L 0) := by
      rw [show isM s' = isM s from by unfold isM; rw [e1, e2], e1, e2]; exact h
    refine ⟨fun _ => (invert_no s' w hs h').mono ?_, (refInvert_no s' w hs h').mono ?_⟩
    · rintro e w' ⟨rfl, rfl⟩; exact ⟨_, rfl, Kp.refl _ _, Or.inr ⟨by omega, rfl⟩⟩
    · rintro e w' ⟨rfl, rfl⟩; exact ⟨_, rfl, Kp.refl _ _, Or.inr ⟨by omega, rfl⟩⟩

/-- rows of the program's own that may be written over, or nothing -/
def Wr (w w' : World) (v : Value) : Prop := v = .slice none 0 0 ∨ ∃ t B R C cap, v = .slice (some ⟨t, 0, none⟩) R cap ∧ Wri w' t B R C ∧ R ≤ 255 ∧ C ≤ 255 ∧ ∀ i, i < R → w.heap.size ≤ B i
theorem Wr.spoil {w w' : World} {v : Value} (h : Wr w w' v) : Calls Tryd.prog 17 #[v] w' fun e w'' => e = .returned (.tuple #[]) ∧ Kp (fun b => w.heap.size ≤ b) w' w'' := by
  rcases h with rfl | ⟨t, B, R, C, cap, rfl, hW, hR, hC, hB⟩
  · refine (spoil_nil w').mono ?_
    rintro e w'' ⟨rfl, rfl⟩
    exact ⟨rfl, Kp.refl _ _⟩
  · refine (spoil_any t cap B R C w' hW (by omega) (by omega)).mono ?_
    rintro e w'' ⟨rfl, k⟩
    exact ⟨rfl, k.mono (fun b _ ⟨i, hi, e⟩ => by rw [e]; exact hB i hi)⟩
theorem Wr.keep {w w' w'' : World} {v : Value} (h : Wr w w' v) (k : Kp (fun _ => False) w' w'') : Wr w w'' v := by
  rcases h with rfl | ⟨t, B, R, C, cap, rfl, hW, hR, hC, hB⟩
  · exact Or.inl rfl
  · exact Or.inr ⟨t, B, R, C, cap, rfl, ⟨k.row hW.top id, fun i hi => by obtain ⟨f, hf, hr⟩ := hW.row i hi; exact ⟨f, hf, k.row hr id⟩, hW.inj, hW.ne⟩, hR, hC, hB⟩

theorem rowsU (s : Sh) (nl : Nat) (z : Nat → Int) (pl : Option Addr) (bl ol cl : Nat) (hpl : ∀ k, k < nl → pl = some ⟨bl, ol, none⟩) : ∃ (c : Int) (n m : Nat) (M : Nat → Nat → Nat), n ≤ 1000000 ∧ ∀ (s' : Sh) (w : World), s'.G = s.G → s'.L = s.L → s'.M = s.M → Rd w s' →
      (∀ k, k < nl → w.cell? ⟨bl, ol + k, none⟩ = some (.int .i64 (z k))) →
    (Calls Tryd.prog 29 #[.slice s'.g s'.G s'.cap, .slice pl nl cl] w fun e w' => ∃ v, e = .returned (.tuple #[v, .int .i64 c]) ∧ Kp (fun _ => False) w w' ∧ Ans w' v c n m M ∧ Wr w w' v) ∧
    (Calls Tryd.prog 30 #[.slice s'.g s'.G s'.cap, .slice pl nl cl] w fun e w' => ∃ v, e = .returned (.tuple #[v, .int .i64 c]) ∧ Kp (fun _ => False) w w' ∧ Ans w' v c n m M) := by
  by_cases h : isM s = true ∧ 1 ≤ nl ∧ nl ≤ 255
  · obtain ⟨a1, a2, a3, a4, a5⟩ := isM_true h.1
    by_cases hg : ∀ k, k < nl → Good s.G (z k)
    · refine ⟨0, nl, s.L 0, fun r => s.M (z r).toNat, by omega, fun s' w e1 e2 e3 hs hl => ?_⟩
      have ms : isM s' = true := by rw [← h.1]; unfold isM; rw [e1, e2]
      refine ⟨(rows_ok s' pl bl ol nl cl (fun k => (z k).toNat) w hs ms hpl (fun k hk => by rw [hl k hk]; have := (hg k hk).1; rw [Int.toNat_of_nonneg this]) (fun k hk => by have := hg k hk; rw [e1]; unfold Good at this; omega) (by omega) (by omega)).mono ?_, (refRows_any s' pl bl ol nl cl z w hs ms hpl hl (by omega) (by omega)).mono ?_⟩
      · rintro e w' ⟨B, rfl, hP⟩
        rw [e2, e3] at hP
        have hM := hP.mat (fun i j => by rw [← e3]; exact hs.byte _ _)
        exact ⟨_, rfl, hP.kept, Or.inl ⟨rfl, hM.mx⟩, Or.inr ⟨_, B, nl, s.L 0, nl, rfl, hM.wri, by omega, by omega, fun i hi => by have := hP.lo i hi; omega⟩⟩
      · rw [e1, e2, e3]
        rintro e w' ⟨hK, ⟨rfl, hbad⟩ | ⟨v, rfl, _, hM⟩⟩
        · exact (hbad hg).elim
        · exact ⟨v, rfl, hK, Or.inl ⟨rfl, hM⟩⟩
    · refine ⟨1, 0, 0, fun _ _ => 0, by omega, fun s' w e1 e2 e3 hs hl => ?_⟩
      have ms : isM s' = true := by rw [← h.1]; unfold isM; rw [e1, e2]
      refine ⟨(rows_no2 s' pl bl ol nl cl z w hs ms hpl hl (by omega) (by omega) (by rw [e1]; exact hg)).mono ?_, (refRows_any s' pl bl ol nl cl z w hs ms hpl hl (by omega) (by omega)).mono ?_⟩
      · rintro e w' ⟨rfl, hK⟩; exact ⟨_, rfl, hK, Or.inr ⟨by omega, rfl⟩, Or.inl rfl⟩
      · rw [e1]
        rintro e w' ⟨hK, ⟨rfl, hbad⟩ | ⟨v, rfl, hgd, hM⟩⟩
        · exact ⟨_, rfl, hK, Or.inr ⟨by omega, rfl⟩⟩
        · exact (hg hgd).elim
  · refine ⟨1, 0, 0, fun _ _ => 0, by omega, fun s' w e1 e2 e3 hs hl => ?_⟩
    have h' : ¬ (isM s' = true ∧ 1 ≤ nl ∧ nl ≤ 255) := by
      rw [show isM s' = isM s from by unfold isM; rw [e1, e2]]; exact h
    refine ⟨(rows_no1 s' pl nl cl w hs h').mono ?_, (refRows_no1 s' pl nl cl w hs h').mono ?_⟩
    · rintro e w' ⟨rfl, rfl⟩; exact ⟨_, rfl, Kp.refl _ _, Or.inr ⟨by omega, rfl⟩, Or.inl rfl⟩
    · rintro e w' ⟨rfl, rfl⟩; exact ⟨_, rfl, Kp.refl _ _, Or.inr ⟨by omega, rfl⟩⟩

set_option maxRecDepth 100000 in
set_option maxHeartbeats 3200000 in
theorem tells_walk (va vb vl : Value) (sa sb : Sh) (nl : Nat) (z : Nat → Int) (w : World) (ha : Tw w va sa) (hb : Tw w vb sb) (hl : ∃ pa ba oa ca, vl = .slice pa nl ca ∧ (∀ j, j < nl → pa = some ⟨ba, oa, none⟩) ∧ (∀ j, j < nl → w.cell? ⟨ba, oa + j, none⟩ = some (.int .i64 (z j)))) (hp : Pows w) :
    Calls Tryd.prog 6 #[va, vb, vl] w fun e w' => e = .returned (.bool true) ∧ Kp (fun _ => False) w w' := by
  obtain ⟨pl, bl, ol, cl, rfl, hl1, hl2⟩ := hl
  have hra := ha.rd
  have hrb := hb.rd
  obtain rfl := ha.val
  obtain rfl := hb.val
  have hbig : (sa.G : Int) ≤ 1000000000000000 := by have := ha.big; omega
  have hbig2 : (sb.G : Int) ≤ 1000000000000000 := by have := hb.big; omega
  have HTa : Hid (Calls _ _ _ w _) := texts_any sa w hra ha.big (fun r hr => ha.long r hr)
  have HTb : Hid (∀ w', Rd w' sb → Calls _ _ _ w' _) := fun w' h => texts_any sb w' h hb.big (fun r hr => hb.long r hr)
  obtain ⟨c1, n1, m1, M1, hn1, hmul⟩ := mulU sa sb
  obtain ⟨c2, n2, M2, hn2, hinv⟩ := invU sa hra.byte
  obtain ⟨c3, n3, m3, M3, hn3, hrows⟩ := rowsU sa nl z pl bl ol cl hl1
  have HMu : Hid _ := hmul
  have HIv : Hid _ := hinv
  have HRo : Hid _ := hrows
  have Hl2 : Hid (∀ j, j < nl → w.cell? ⟨bl, ol + j, none⟩ = some (.int .i64 (z j))) := hl2
  have Hra : Hid (Rd w sa) := hra
  have Hrb : Hid (Rd w sb) := hrb
  have q1 : (c1 != c1) = false := bne_self_eq_false _
  have q2 : (c2 != c2) = false := bne_self_eq_false _
  have q3 : (c3 != c3) = false := bne_self_eq_false _
  clear ha hb hmul hinv hrows hl1 hl2 hra hrb
  go_enter Tryd.func6, Tryd.ntmps6
  go_wp2_with fail
  refine HTa.out.mono ?_
  rintro e w1 ⟨gx, capx, gbx, Ax, Cx, RBx, rfl, k1, hOx⟩
  have Hx : Hid (Rd w1 _) := hOx.rd
  clear HTa hOx
  go_wp2_with fail
  refine (HTb.out w1 (Hrb.out.keep k1)).mono ?_
  rintro e w2 ⟨gy, capy, gby, Ay, Cy, RBy, rfl, k2, hOy⟩
  have kk2 := k1.trans k2 (fun _ _ e => e)
  have Hy : Hid (Rd w2 _) := hOy.rd
  have Hx2 : Hid (Rd w2 _) := Hx.out.keep k2
  clear HTb hOy Hx
  go_wp2_with fail
  refine ((HMu.out ⟨gx, sa.G, capx, gbx, 0, Ax, sa.L, Cx, RBx, fun _ => 0, sa.M⟩ ⟨gy, sb.G, capy, gby, 0, Ay, sb.L, Cy, RBy, fun _ => 0, sb.M⟩ w2 rfl rfl rfl rfl rfl rfl Hx2.out Hy.out).1 (kk2.pows hp id)).mono ?_
  rintro e w3 ⟨vp, rfl, k3, hp3⟩
  have kk3 := kk2.trans k3 (fun _ _ e => e)
  go_wp2_with fail
  refine ((HMu.out sa sb w3 rfl rfl rfl rfl rfl rfl (Hra.out.keep kk3) (Hrb.out.keep kk3)).2).mono ?_
  rintro e w4 ⟨vq, rfl, k4, hq4⟩
  have kk4 := kk3.trans k4 (fun _ _ e => e)
  have HSm : Hid (Calls _ _ _ w4 _) := (hp3.keep k4).same hq4 hn1
  clear HMu hp3 hq4
  go_wp2_with fail
  refine HSm.out.mono ?_
  rintro e w' ⟨rfl, hw⟩
  obtain rfl := hw.symm
  clear HSm
  have Hx4 : Hid (Rd w4 _) := (Hx2.out.keep k3).keep k4
  go_wp2_with fail
  refine ((HIv.out ⟨gx, sa.G, capx, gbx, 0, Ax, sa.L, Cx, RBx, fun _ => 0, sa.M⟩ w4 rfl rfl rfl Hx4.out).1 (kk4.pows hp id)).mono ?_
  rintro e w5 ⟨vp5, rfl, k5, hp5⟩
  have kk5 := kk4.trans k5 (fun _ _ e => e)
  go_wp2_with fail
  refine ((HIv.out sa w5 rfl rfl rfl (Hra.out.keep kk5)).2).mono ?_
  rintro e w6 ⟨vq6, rfl, k6, hq6⟩
  have kk6 := kk5.trans k6 (fun _ _ e => e)
  have HSm : Hid (Calls _ _ _ w6 _) := (hp5.keep k6).same hq6 hn2
  clear HIv hp5 hq6
  go_wp2_with fail
  refine HSm.out.mono ?_
  rintro e w' ⟨rfl, hw⟩
  obtain rfl := hw.symm
  clear HSm
  have Hx6 : Hid (Rd w6 _) := (Hx4.out.keep k5).keep k6
  go_wp2_with fail
  refine ((HRo.out ⟨gx, sa.G, capx, gbx, 0, Ax, sa.L, Cx, RBx, fun _ => 0, sa.M⟩ w6 rfl rfl rfl Hx6.out (fun k hk => kk6.cellv (Hl2.out k hk) id)).1).mono ?_
  rintro e w7 ⟨vp7, rfl, k7, hp7, hW7⟩
  have kk7 := kk6.trans k7 (fun _ _ e => e)
  go_wp2_with fail
  refine ((HRo.out sa w7 rfl rfl rfl (Hra.out.keep kk7) (fun k hk => kk7.cellv (Hl2.out k hk) id)).2).mono ?_
  rintro e w8 ⟨vq8, rfl, k8, hq8⟩
  have kk8 := kk7.trans k8 (fun _ _ e => e)
  have HSm : Hid (Calls _ _ _ w8 _) := (hp7.keep k8).same hq8 hn3
  have HSp : Hid (Calls _ _ _ w8 _) := (hW7.keep k8).spoil
  clear HRo hp7 hq8 hW7
  go_wp2_with fail
  refine HSm.out.mono ?_
  rintro e w' ⟨rfl, hw⟩
  obtain rfl := hw.symm
  clear HSm
  go_wp2_with fail
  refine HSp.out.mono ?_
  rintro e w9 ⟨rfl, k9⟩
  have k69 : Kp (fun _ => False) w6 w9 := (k7.trans k8 (fun _ _ e => e)).trans k9 (fun b hb e => by omega)
  have kk9 := kk6.trans k69 (fun _ _ e => e)
  have HS1 : Hid (Calls _ _ _ w9 _) := sameTexts_any ⟨gx, sa.G, capx, gbx, 0, Ax, sa.L, Cx, RBx, fun _ => 0, sa.M⟩ sa w9 (Hx6.out.keep k69) (Hra.out.keep kk9) hbig true (fun _ => ⟨rfl, fun r _ => ⟨rfl, fun c _ => rfl⟩⟩) (fun h => by cases h)
  have HS2 : Hid (Calls _ _ _ w9 _) := sameTexts_any ⟨gy, sb.G, capy, gby, 0, Ay, sb.L, Cy, RBy, fun _ => 0, sb.M⟩ sb w9 (((((Hy.out.keep k3).keep k4).keep k5).keep k6).keep k69) (Hrb.out.keep kk9) hbig2 true (fun _ => ⟨rfl, fun r _ => ⟨rfl, fun c _ => rfl⟩⟩) (fun h => by cases h)
  have HA : Hid (Calls _ _ _ w9 _) := awake_any w9 (kk9.pows hp id)
  clear HSp
  go_wp2_with fail
  refine HS1.out.mono ?_
  rintro e w' ⟨rfl, hw⟩
  obtain rfl := hw.symm
  go_wp2_with fail
  refine HS2.out.mono ?_
  rintro e w' ⟨rfl, hw⟩
  obtain rfl := hw.symm
  go_wp2_with fail
  refine HA.out.mono ?_
  rintro e w10 ⟨rfl, k10⟩
  go_wp2
  go_ret
  exact ⟨rfl, kk9.trans k10 (fun _ _ e => e)⟩
end Go.Proofs.YtelbnflmchgjlaaDoor
