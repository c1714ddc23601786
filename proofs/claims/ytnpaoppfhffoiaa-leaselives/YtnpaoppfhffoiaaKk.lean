/- The walk of the law LeaseLives: whatever is done to a list, it answers and has what the document says (laid by scripts/mkkk.py). -/
import Derived.Test.YtnpaoppfhffoiaaKl
import Derived.Test.YtnpaoppfhffoiaaKi
import Derived.Test.YtnpaoppfhffoiaaJw
namespace Go.Proofs.Ytnpaoppfhffoiaa
set_option linter.unusedVariables false
set_option linter.unusedSimpArgs false
open Go.RowKit Go.Deep Go.Maps Go.Shelf Go.Lib Go.Sort

theorem zkeep2 {w w' : World} {base L h m t : Nat} {v : Value} {l : List Wt} (z : Lz w L h m v l) (hb : L < base ∧ h < base ∧ m < base ∧ base ≤ t) (hne : v.ownBlock ≠ some t) (k : Kp (fun b => b = t ∨ (base ≤ b ∧ tyB w b 67)) w w') : Lz w' L h m v l := by
  refine z.keep k (fun b hb2 e => ?_)
  rcases hb2 with e2 | e2 | e2 | e2
  · rcases e with e | e <;> omega
  · rcases e with e | e <;> omega
  · rcases e with e | e <;> omega
  · rcases e with e | e
    · exact hne (by rw [e2, e])
    · exact wtNe (tyB_one (tyB_own z.x.o e2) e.2)
/-- both lists, behind k calls -/
def Lp (w wr : World) (t L h m k : Nat) : Prop := ∃ v l lx, Kp (fun _ => False) w wr ∧ Pw wr t L h m t v l lx ∧ lx.length ≤ k ∧ k ≤ 61 ∧ ∀ b, Ls L h m v b → w.heap.size ≤ b
theorem Lp.keep0 {w wr wr' : World} {t L h m k : Nat} (x : Lp w wr t L h m k) (kk : Kp (fun _ => False) wr wr') : Lp w wr' t L h m k := by
  obtain ⟨v, l, lx, h1, h2, h3, h4, h5⟩ := x
  exact ⟨v, l, lx, h1.trans kk (fun _ _ e => e), h2.keep0 kk, h3, h4, h5⟩

set_option maxRecDepth 100000 in
set_option maxHeartbeats 12800000 in
theorem leaseLives_walk (v0 : Value) (N : Nat) (w : World) (hv : Dz w v0 N) : Calls Try.prog 3 #[v0] w fun e w' => e = .returned (.bool true) ∧ Kp (fun _ => False) w w' := by
  obtain ⟨p0, cp, rfl, hmax, hc⟩ := hv
  have HC : Hid (∀ r, r < N → ∃ (b o : Nat) (a0 a1 a2 a3 : Int), p0 = some ⟨b, o, none⟩ ∧ w.cell? ⟨b, o + r * 4, none⟩ = some (.int .i64 a0) ∧ w.cell? ⟨b, o + r * 4 + 1, none⟩ = some (.int .i64 a1) ∧ w.cell? ⟨b, o + r * 4 + 2, none⟩ = some (.int .i64 a2) ∧ w.cell? ⟨b, o + r * 4 + 3, none⟩ = some (.int .i64 a3) ∧ wf2 a1 a2) := hc
  have HMX : Hid ((N : Int) ≤ 9223372036854775807) := hmax
  have HN : Hid (Calls _ _ _ w _) := lnew_ok w
  clear hc hmax
  go_enter Try.func3, Try.ntmps3
  go_wp2_with fail
  refine HN.out.mono ?_
  rintro e w1 ⟨L, h, m, rfl, k1, z1, b1⟩
  have HW1 : Hid (Kp (fun _ => False) w w1) := k1
  have HP : Hid (Lp w (w1.alloc (.cells #[.slice none 0 0] 28)) w1.heap.size L h m 0) := by
    have ka : Kp (fun _ => False) w1 (w1.alloc (.cells #[.slice none 0 0] 28)) := (Kp.refl _ _).alloc _
    refine ⟨.slice none 0 0, [], [], k1.trans ka (fun _ _ e => e), ⟨z1.keep0 ka, ⟨.slice none 0 0, Lv.new w1 _ _, World.ownsRow_nil _ _ _ _, (fun e => by cases e), Nat.le_refl _⟩, List.Perm.refl _, by simp, ⟨z1.lt L (Or.inl rfl), z1.lt h (Or.inr (Or.inl rfl)), z1.lt m (Or.inr (Or.inr (Or.inl rfl))), Nat.le_refl _⟩, (fun e => by cases e)⟩, by simp, by omega, b1⟩
  clear HN k1 z1 b1
  go_wp2
  go_loopg [13] N (fun gk i wr => ∃ (k : Nat), k ≤ N ∧ gk = N - k ∧ i = .int .i64 k ∧ Hid (Lp w wr w1.heap.size L h m k))
  case atStart => exact ⟨0, Nat.zero_le _, rfl, rfl, HP⟩
  case round =>
    clear HP
    obtain ⟨k, hk, rfl, rfl, HS⟩ := hrel
    by_cases hlt : (k : Int) < (N : Int)
    · obtain ⟨b, o, a0, a1, a2, a3, rfl, c0, c1, c2, c3, hwf⟩ := HC.out k (by omega)
      have HKN : Hid (k < N) := by show k < N; omega
      obtain ⟨v, l, lx, kw, P, hlen, h61, hfr⟩ := HS.out
      have f0 := kw.cellv c0 id
      have f1 := kw.cellv c1 id
      have f2 := kw.cellv c2 id
      have f3 := kw.cellv c3 id
      have ka : Kp (fun _ => False) wr (wr.alloc (.cells #[.int .i64 a0, .int .i64 a1, .int .i64 a2, .int .i64 a3] 30)) := (Kp.refl _ _).alloc _
      have Lbx : Hid (Lv (wr.alloc (.cells #[.int .i64 a0, .int .i64 a1, .int .i64 a2, .int .i64 a3] 30)) wr.heap.size [.int .i64 a0, .int .i64 a1, .int .i64 a2, .int .i64 a3]) := Lv.new wr _ _
      have x0 := Lbx.out.cell (j := 0) rfl
      have x1 := Lbx.out.cell (j := 1) rfl
      have x2 := Lbx.out.cell (j := 2) rfl
      have x3 := Lbx.out.cell (j := 3) rfl
      have KB : Hid (Kp (fun _ => False) w (wr.alloc (.cells #[.int .i64 a0, .int .i64 a1, .int .i64 a2, .int .i64 a3] 30))) := kw.trans ka (fun _ _ e => e)
      have Pb := P.keep0 ka
      have HLT : Hid (∀ b, Ls L h m v b → b < wr.heap.size) := P.z.lt
      have HXT : Hid (w1.heap.size < wr.heap.size) := P.x.lt
      by_cases hbr : (60 : Int) < (k : Int)
      · obtain ⟨z9, hz9⟩ : ∃ x, x = wr.alloc (.cells #[.int .i64 a0, .int .i64 a1, .int .i64 a2, .int .i64 a3] 30) := ⟨_, rfl⟩
        have HT : Hid (Lp w z9 w1.heap.size L h m k) := by rw [hz9]; exact HS.out.keep0 ka
        clear Pb P KB HLT HXT Lbx hfr kw ka hwf hlen h61 HS c0 c1 c2 c3
        go_wp2_with fail
        rw [← hz9]
        clear x0 x1 x2 x3 f0 f1 f2 f3 hz9
        obtain ⟨v9, l9, lx9, kw9, P9, hl9, h9, f9⟩ := HT.out
        have heq : srtP (l9.map key) = srtP (lx9.map key) := srtP_perm (P9.p.map key)
        have HKW9 : Hid (Kp (fun _ => False) w z9) := kw9
        have hal := lall_ok P9.z (by have := P9.len; omega)
        rw [heq] at hal
        obtain ⟨nn, hnn⟩ : ∃ nn, nn = (srtP (lx9.map key)).length := ⟨_, rfl⟩
        have HAX : Hid (∀ z, Kp (fun _ => False) z9 z → Calls Try.prog 18 #[.pointer (some ⟨w1.heap.size, 0, none⟩)] z fun e w' => ∃ q2 d2, e = .returned (.slice q2 nn d2) ∧ Kp (fun _ => False) z w') := fun z kz => by
          obtain ⟨vx, lvx, ownx, _⟩ := (P9.keep0 kz).x
          refine (xall_ok (lvx.cell (j := 0) rfl) (Xr.ofOwn ownx) P9.d (by omega)).mono ?_
          rintro e w' ⟨rv, rfl, ka, o2⟩
          obtain ⟨q2, d2, hrv, _⟩ := Pr.ofOwn o2
          rw [hnn, hrv]
          exact ⟨q2, d2, rfl, ka⟩
        have HAL : Hid (Calls Try.prog 17 #[.pointer (some ⟨L, 0, none⟩)] z9 fun e w' => ∃ q1 d1, e = .returned (.slice q1 nn d1) ∧ Kp (fun _ => False) z9 w') := by
          refine hal.mono ?_
          rintro e w' ⟨rv, rfl, ka, q1, d1, hrv, _⟩
          rw [hnn, hrv]
          exact ⟨q1, d1, rfl, ka⟩
        have HU : Hid (∀ z, Calls Try.prog 19 #[.int .i64 0] z fun e w' => e = .returned (.int .i64 40) ∧ w' = z) := fun z => until_ok 0 z
        clear hal heq hnn P9 kw9 f9 hl9 h9 HT
        go_wp2_with (first
          | (go_at_call 17; refine HAL.out.mono ?_; rintro e y1 ⟨q1, d1, rfl, ka⟩; have HK1y : Hid (Kp (fun _ => False) z9 y1) := ka; clear ka)
          | (go_at_call 18; refine (HAX.out _ HK1y.out).mono ?_; rintro e y2 ⟨q2, d2, rfl, kb⟩; have HK2y : Hid (Kp (fun _ => False) y1 y2) := kb; clear kb)
          | (go_at_call 19; refine (HU.out _).mono ?_; rintro e y3 ⟨rfl, hy3⟩; subst hy3))
        go_ret
        exact ⟨rfl, (HKW9.out.trans HK1y.out (fun _ _ e => e)).trans HK2y.out (fun _ _ e => e)⟩
      · obtain ⟨M, hM, hM0, hM4⟩ := md_eq2 4 a0 (by omega) (by omega)
        have hk61 : k ≤ 60 := by omega
        clear P kw ka c0 c1 c2 c3 HS h61
        have hM5 : M = 0 ∨ M = 1 ∨ M = 2 ∨ M = 3 := by omega
        rcases hM5 with rfl | rfl | rfl | rfl
        · clear hM0 hM4
          go_wp2_with fail
          refine (lretire_ok Pb.z a1 a2 a3 (by have := Pb.len; omega) hwf).mono ?_
          rintro e z1 ⟨rfl, k1z, v', l', z', p', b'⟩
          have bx := Lbx.out.keep k1z (fun e => by have := HLT.out _ (Or.inr e); omega)
          have d1 := bx.cell (j := 1) rfl
          have d2 := bx.cell (j := 2) rfl
          have d3 := bx.cell (j := 3) rfl
          have X1 : Xl z1 w1.heap.size w1.heap.size lx := Pb.xkeep k1z
          have HB1 : Hid (Kp (fun _ => False) w z1) := KB.out.trans k1z (fun b hb e => by have := hfr b (Or.inr e); omega)
          have HXR : Hid (Calls Try.prog 11 #[.pointer (some ⟨w1.heap.size, 0, none⟩), .int .i64 a1, .int .i64 a2, .int .i64 a3] z1 fun e z2 => e = .returned (.tuple #[]) ∧ Lp w z2 w1.heap.size L h m (k + 1)) := by
            have hne := Pb.ne' b'
            have hfr' : ∀ b, Ls L h m v' b → w.heap.size ≤ b := fun b e => by
              rcases e with e | e | e | e
              · exact hfr b (Or.inl e)
              · exact hfr b (Or.inr (Or.inl e))
              · exact hfr b (Or.inr (Or.inr (Or.inl e)))
              · rcases b' with hb | ⟨g, hg, hl⟩
                · exact hfr b (Or.inr (Or.inr (Or.inr (hb ▸ e))))
                · rw [hg] at e
                  have e' : g = b := Option.some.inj e
                  have := KB.out.size
                  omega
            by_cases hin : (a1, a2) ∈ lx.map key
            · refine (xretire_old X1 a1 a2 a3 hin (by omega)).mono ?_
              rintro e z2 ⟨rfl, k2⟩
              exact ⟨rfl, v', l', lx, HB1.out.trans k2 (fun _ _ e => e), ⟨z'.keep0 k2, X1.keep k2 (fun _ _ _ e => e), p'.trans (addW_old (e := ⟨a1, a2, waits a3 + 83⟩) Pb.p hin), Pb.d, Pb.b, hne⟩, by omega, by omega, hfr'⟩
            · refine (xretire_new X1 a1 a2 a3 hin (by omega)).mono ?_
              rintro e z2 ⟨rfl, k2, x2⟩
              refine ⟨rfl, v', l', lx ++ [⟨a1, a2, waits a3 + 83⟩], HB1.out.trans k2 (fun b hb e => ?_), ⟨zkeep2 z' Pb.b hne k2, x2, p'.trans (addW_new (e := ⟨a1, a2, waits a3 + 83⟩) Pb.p hin), nodup_add (e := ⟨a1, a2, waits a3 + 83⟩) Pb.d hin, Pb.b, hne⟩, by rw [List.length_append]; simp; omega, by omega, hfr'⟩
              have := HW1.out.size
              rcases e with e | e
              · omega
              · omega
          clear Pb X1 z' p' b' k1z bx HLT Lbx KB hfr HB1
          go_wp2_with fail
          refine HXR.out.mono ?_
          rintro e z9 ⟨rfl, hlp⟩
          have HT : Hid (Lp w z9 w1.heap.size L h m (k + 1)) := hlp
          clear HXR hlp d1 d2 d3
          obtain ⟨v9, l9, lx9, kw9, P9, hl9, h9, f9⟩ := HT.out
          have heq : srtP (l9.map key) = srtP (lx9.map key) := srtP_perm (P9.p.map key)
          have hal := lall_ok P9.z (by have := P9.len; omega)
          rw [heq] at hal
          have HAL : Hid (Calls _ _ _ z9 _) := hal
          have HAX : Hid (∀ z, Kp (fun _ => False) z9 z → Calls _ _ _ z _) := fun z kz => by
            have hx := (P9.keep0 kz).x
            exact xall_ok (hx.choose_spec.1.cell (j := 0) rfl) (Xr.ofOwn hx.choose_spec.2.1) P9.d (by omega)
          have HLN : Hid ((srtP (lx9.map key)).length ≤ 100000) := by
            have e1 := (List.mergeSort_perm (lx9.map key) (fun a b => !(ltOf ris) b a)).length_eq
            have e2 : (srtP (lx9.map key)).length = (lx9.map key).length := e1
            rw [List.length_map] at e2
            show _ ≤ _
            omega
          clear hal heq P9 kw9 f9 hl9 h9
          go_wp2_with fail
          refine HAL.out.mono ?_
          rintro e y1 ⟨rv1, rfl, ka, pr1⟩
          have HP1 : Hid (Kp (fun _ => False) z9 y1 ∧ Pr y1 (fun b => z9.heap.size ≤ b) rv1 (srtP (lx9.map key))) := ⟨ka, pr1⟩
          clear ka pr1 HAL
          go_wp2_with fail
          refine (HAX.out _ HP1.out.1).mono ?_
          rintro e y2 ⟨rv2, rfl, kb, o2⟩
          have HEQ : Hid (Calls _ _ _ y2 _) := pequal (HP1.out.2.keep kb (fun _ _ _ e => e)) (Pr.ofOwn o2) HLN.out
          have HK2y : Hid (Kp (fun _ => False) z9 y2) := HP1.out.1.trans kb (fun _ _ e => e)
          clear kb o2 HAX HP1 HLN
          go_wp2_with fail
          refine HEQ.out.mono ?_
          rintro e y3 ⟨rfl, kc⟩
          have HR : Hid (Lp w y3 w1.heap.size L h m (k + 1)) := HT.out.keep0 (HK2y.out.trans kc (fun _ _ e => e))
          clear HEQ HK2y kc HT
          go_wp2
          go_roundg (N - (k + 1))
          case rel => exact ⟨k + 1, by have := HKN.out; omega, rfl, by go_num, HR⟩
          case measure => have := HKN.out; omega
        · clear hM0 hM4
          go_wp2_with fail
          refine (lretire_ok Pb.z a1 a2 a3 (by have := Pb.len; omega) hwf).mono ?_
          rintro e z1 ⟨rfl, k1z, v', l', z', p', b'⟩
          have bx := Lbx.out.keep k1z (fun e => by have := HLT.out _ (Or.inr e); omega)
          have d1 := bx.cell (j := 1) rfl
          have d2 := bx.cell (j := 2) rfl
          have d3 := bx.cell (j := 3) rfl
          have X1 : Xl z1 w1.heap.size w1.heap.size lx := Pb.xkeep k1z
          have HB1 : Hid (Kp (fun _ => False) w z1) := KB.out.trans k1z (fun b hb e => by have := hfr b (Or.inr e); omega)
          have HXR : Hid (Calls Try.prog 11 #[.pointer (some ⟨w1.heap.size, 0, none⟩), .int .i64 a1, .int .i64 a2, .int .i64 a3] z1 fun e z2 => e = .returned (.tuple #[]) ∧ Lp w z2 w1.heap.size L h m (k + 1)) := by
            have hne := Pb.ne' b'
            have hfr' : ∀ b, Ls L h m v' b → w.heap.size ≤ b := fun b e => by
              rcases e with e | e | e | e
              · exact hfr b (Or.inl e)
              · exact hfr b (Or.inr (Or.inl e))
              · exact hfr b (Or.inr (Or.inr (Or.inl e)))
              · rcases b' with hb | ⟨g, hg, hl⟩
                · exact hfr b (Or.inr (Or.inr (Or.inr (hb ▸ e))))
                · rw [hg] at e
                  have e' : g = b := Option.some.inj e
                  have := KB.out.size
                  omega
            by_cases hin : (a1, a2) ∈ lx.map key
            · refine (xretire_old X1 a1 a2 a3 hin (by omega)).mono ?_
              rintro e z2 ⟨rfl, k2⟩
              exact ⟨rfl, v', l', lx, HB1.out.trans k2 (fun _ _ e => e), ⟨z'.keep0 k2, X1.keep k2 (fun _ _ _ e => e), p'.trans (addW_old (e := ⟨a1, a2, waits a3 + 83⟩) Pb.p hin), Pb.d, Pb.b, hne⟩, by omega, by omega, hfr'⟩
            · refine (xretire_new X1 a1 a2 a3 hin (by omega)).mono ?_
              rintro e z2 ⟨rfl, k2, x2⟩
              refine ⟨rfl, v', l', lx ++ [⟨a1, a2, waits a3 + 83⟩], HB1.out.trans k2 (fun b hb e => ?_), ⟨zkeep2 z' Pb.b hne k2, x2, p'.trans (addW_new (e := ⟨a1, a2, waits a3 + 83⟩) Pb.p hin), nodup_add (e := ⟨a1, a2, waits a3 + 83⟩) Pb.d hin, Pb.b, hne⟩, by rw [List.length_append]; simp; omega, by omega, hfr'⟩
              have := HW1.out.size
              rcases e with e | e
              · omega
              · omega
          clear Pb X1 z' p' b' k1z bx HLT Lbx KB hfr HB1
          go_wp2_with fail
          refine HXR.out.mono ?_
          rintro e z9 ⟨rfl, hlp⟩
          have HT : Hid (Lp w z9 w1.heap.size L h m (k + 1)) := hlp
          clear HXR hlp d1 d2 d3
          obtain ⟨v9, l9, lx9, kw9, P9, hl9, h9, f9⟩ := HT.out
          have heq : srtP (l9.map key) = srtP (lx9.map key) := srtP_perm (P9.p.map key)
          have hal := lall_ok P9.z (by have := P9.len; omega)
          rw [heq] at hal
          have HAL : Hid (Calls _ _ _ z9 _) := hal
          have HAX : Hid (∀ z, Kp (fun _ => False) z9 z → Calls _ _ _ z _) := fun z kz => by
            have hx := (P9.keep0 kz).x
            exact xall_ok (hx.choose_spec.1.cell (j := 0) rfl) (Xr.ofOwn hx.choose_spec.2.1) P9.d (by omega)
          have HLN : Hid ((srtP (lx9.map key)).length ≤ 100000) := by
            have e1 := (List.mergeSort_perm (lx9.map key) (fun a b => !(ltOf ris) b a)).length_eq
            have e2 : (srtP (lx9.map key)).length = (lx9.map key).length := e1
            rw [List.length_map] at e2
            show _ ≤ _
            omega
          clear hal heq P9 kw9 f9 hl9 h9
          go_wp2_with fail
          refine HAL.out.mono ?_
          rintro e y1 ⟨rv1, rfl, ka, pr1⟩
          have HP1 : Hid (Kp (fun _ => False) z9 y1 ∧ Pr y1 (fun b => z9.heap.size ≤ b) rv1 (srtP (lx9.map key))) := ⟨ka, pr1⟩
          clear ka pr1 HAL
          go_wp2_with fail
          refine (HAX.out _ HP1.out.1).mono ?_
          rintro e y2 ⟨rv2, rfl, kb, o2⟩
          have HEQ : Hid (Calls _ _ _ y2 _) := pequal (HP1.out.2.keep kb (fun _ _ _ e => e)) (Pr.ofOwn o2) HLN.out
          have HK2y : Hid (Kp (fun _ => False) z9 y2) := HP1.out.1.trans kb (fun _ _ e => e)
          clear kb o2 HAX HP1 HLN
          go_wp2_with fail
          refine HEQ.out.mono ?_
          rintro e y3 ⟨rfl, kc⟩
          have HR : Hid (Lp w y3 w1.heap.size L h m (k + 1)) := HT.out.keep0 (HK2y.out.trans kc (fun _ _ e => e))
          clear HEQ HK2y kc HT
          go_wp2
          go_roundg (N - (k + 1))
          case rel => exact ⟨k + 1, by have := HKN.out; omega, rfl, by go_num, HR⟩
          case measure => have := HKN.out; omega
        · clear hM0 hM4
          go_wp2_with fail
          refine (lkeep_ok Pb.z a1 a2 (by have := Pb.len; omega) hwf).mono ?_
          rintro e z1 ⟨rfl, k1z, v', l', z', p', b'⟩
          have bx := Lbx.out.keep k1z (fun e => by have := HLT.out _ (Or.inr e); omega)
          have d1 := bx.cell (j := 1) rfl
          have d2 := bx.cell (j := 2) rfl
          have X1 : Xl z1 w1.heap.size w1.heap.size lx := Pb.xkeep k1z
          have HB1 : Hid (Kp (fun _ => False) w z1) := KB.out.trans k1z (fun b hb e => by have := hfr b (Or.inr e); omega)
          have HXR : Hid (Calls Try.prog 13 #[.pointer (some ⟨w1.heap.size, 0, none⟩), .int .i64 a1, .int .i64 a2] z1 fun e z2 => e = .returned (.tuple #[]) ∧ Lp w z2 w1.heap.size L h m (k + 1)) := by
            have hne := Pb.ne' (Or.inl b')
            have hfr' : ∀ b, Ls L h m v' b → w.heap.size ≤ b := fun b e => by
              rcases e with e | e | e | e
              · exact hfr b (Or.inl e)
              · exact hfr b (Or.inr (Or.inl e))
              · exact hfr b (Or.inr (Or.inr (Or.inl e)))
              · exact hfr b (Or.inr (Or.inr (Or.inr (b' ▸ e))))
            refine (xkeep_ok X1 a1 a2 (by omega)).mono ?_
            rintro e z2 ⟨rfl, k2, x2⟩
            have hll : (keepX lx a1 a2).length ≤ lx.length := List.length_filter_le _ _
            refine ⟨rfl, v', l', keepX lx a1 a2, HB1.out.trans k2 (fun b hb e => ?_), ⟨zkeep2 z' Pb.b hne (k2.mono (fun _ _ e => Or.inl e)), x2, p'.trans (dropW_p Pb.p a1 a2), nodup_filter _ Pb.d, Pb.b, hne⟩, by omega, by omega, hfr'⟩
            have := HW1.out.size
            omega
          clear Pb X1 z' p' b' k1z bx HLT Lbx KB hfr HB1
          go_wp2_with fail
          refine HXR.out.mono ?_
          rintro e z9 ⟨rfl, hlp⟩
          have HT : Hid (Lp w z9 w1.heap.size L h m (k + 1)) := hlp
          clear HXR hlp d1 d2
          obtain ⟨v9, l9, lx9, kw9, P9, hl9, h9, f9⟩ := HT.out
          have heq : srtP (l9.map key) = srtP (lx9.map key) := srtP_perm (P9.p.map key)
          have hal := lall_ok P9.z (by have := P9.len; omega)
          rw [heq] at hal
          have HAL : Hid (Calls _ _ _ z9 _) := hal
          have HAX : Hid (∀ z, Kp (fun _ => False) z9 z → Calls _ _ _ z _) := fun z kz => by
            have hx := (P9.keep0 kz).x
            exact xall_ok (hx.choose_spec.1.cell (j := 0) rfl) (Xr.ofOwn hx.choose_spec.2.1) P9.d (by omega)
          have HLN : Hid ((srtP (lx9.map key)).length ≤ 100000) := by
            have e1 := (List.mergeSort_perm (lx9.map key) (fun a b => !(ltOf ris) b a)).length_eq
            have e2 : (srtP (lx9.map key)).length = (lx9.map key).length := e1
            rw [List.length_map] at e2
            show _ ≤ _
            omega
          clear hal heq P9 kw9 f9 hl9 h9
          go_wp2_with fail
          refine HAL.out.mono ?_
          rintro e y1 ⟨rv1, rfl, ka, pr1⟩
          have HP1 : Hid (Kp (fun _ => False) z9 y1 ∧ Pr y1 (fun b => z9.heap.size ≤ b) rv1 (srtP (lx9.map key))) := ⟨ka, pr1⟩
          clear ka pr1 HAL
          go_wp2_with fail
          refine (HAX.out _ HP1.out.1).mono ?_
          rintro e y2 ⟨rv2, rfl, kb, o2⟩
          have HEQ : Hid (Calls _ _ _ y2 _) := pequal (HP1.out.2.keep kb (fun _ _ _ e => e)) (Pr.ofOwn o2) HLN.out
          have HK2y : Hid (Kp (fun _ => False) z9 y2) := HP1.out.1.trans kb (fun _ _ e => e)
          clear kb o2 HAX HP1 HLN
          go_wp2_with fail
          refine HEQ.out.mono ?_
          rintro e y3 ⟨rfl, kc⟩
          have HR : Hid (Lp w y3 w1.heap.size L h m (k + 1)) := HT.out.keep0 (HK2y.out.trans kc (fun _ _ e => e))
          clear HEQ HK2y kc HT
          go_wp2
          go_roundg (N - (k + 1))
          case rel => exact ⟨k + 1, by have := HKN.out; omega, rfl, by go_num, HR⟩
          case measure => have := HKN.out; omega
        · clear hM0 hM4
          go_wp2_with fail
          obtain ⟨zb, hzb⟩ : ∃ x, x = wr.alloc (.cells #[.int .i64 a0, .int .i64 a1, .int .i64 a2, .int .i64 a3] 30) := ⟨_, rfl⟩
          rw [← hzb] at Pb ⊢
          have hBx : Hid (Lv zb wr.heap.size [.int .i64 a0, .int .i64 a1, .int .i64 a2, .int .i64 a3]) := by rw [hzb]; exact Lbx.out
          have KBz : Hid (Kp (fun _ => False) w zb) := by rw [hzb]; exact KB.out
          have hsz : wr.heap.size < zb.heap.size := hBx.out.lt (by simp)
          clear Lbx KB hzb
          have kd : Kp (fun _ => False) zb zb.drew := (Kp.refl _ _).drew
          have Pd := Pb.keep0 kd
          have hS0 : zb.drew.cell? ⟨wr.heap.size, 3, none⟩ = some (.int .i64 a3) := (hBx.out.keep kd id).cell (j := 3) rfl
          have hc8 : Calls Try.prog 15 #[.pointer (some ⟨L, 0, none⟩), .int .i64 a3] zb.drew fun e w9 => ∃ rv1, e = .returned rv1 ∧ w9.cell? ⟨wr.heap.size, 3, none⟩ = some (.int .i64 a3) ∧ Calls Try.prog 16 #[.pointer (some ⟨w1.heap.size, 0, none⟩), .int .i64 a3] w9 fun e w9 => ∃ rv2, e = .returned rv2 ∧ w9.cell? ⟨wr.heap.size, 3, none⟩ = some (.int .i64 a3) ∧ Calls Try.prog 14 #[rv1, rv2] w9 fun e w9 => e = .returned (.bool true) ∧ w9.cell? ⟨wr.heap.size, 3, none⟩ = some (.int .i64 a3) ∧ Lp w w9 w1.heap.size L h m (k + 1) := by
            refine (ldue_ok Pd.z a3 (by have := Pd.len; omega)).mono ?_
            rintro e z1 ⟨rv1, ds, rfl, k1z, pr1, v', l', z', p', q1, q2, b'⟩
            have bx := (hBx.out.keep kd id).keep k1z (fun e => by have := HLT.out _ (Or.inr e); omega)
            have X1 : Xl z1 w1.heap.size w1.heap.size lx := Pd.xkeep k1z
            have hB1 : Kp (fun _ => False) w z1 := (KBz.out.trans kd (fun _ _ e => e)).trans k1z (fun b hb e => by have := hfr b (Or.inr e); omega)
            obtain ⟨hp1, hp2⟩ := due_p Pd.p p' q1 q2
            have hne := Pd.ne' (Or.inl b')
            have hfr' : ∀ b, Ls L h m v' b → w.heap.size ≤ b := fun b e => by
              rcases e with e | e | e | e
              · exact hfr b (Or.inl e)
              · exact hfr b (Or.inr (Or.inl e))
              · exact hfr b (Or.inr (Or.inr (Or.inl e)))
              · exact hfr b (Or.inr (Or.inr (Or.inr (b' ▸ e))))
            refine ⟨rv1, rfl, bx.cell (j := 3) rfl, ?_⟩
            refine (xdue_ok X1 a3 Pd.d (by omega)).mono ?_
            rintro e z2 ⟨rv2, rfl, k2, x2, o2⟩
            have htk : w1.heap.size ≠ wr.heap.size := by have := HXT.out; omega
            have bx2 := bx.keep k2 (fun e => htk e.symm)
            have hll : (leftX lx (waits a3)).length ≤ lx.length := List.length_filter_le _ _
            have hdd : (dueX lx (waits a3)).length ≤ lx.length := List.length_filter_le _ _
            have P2 : Lp w z2 w1.heap.size L h m (k + 1) := by
              refine ⟨v', l', leftX lx (waits a3), hB1.trans k2 (fun b hb e => by have := HW1.out.size; omega), ⟨zkeep2 z' Pd.b hne (k2.mono (fun _ _ e => Or.inl e)), x2, hp2, nodup_filter _ Pd.d, Pd.b, hne⟩, by omega, by omega, hfr'⟩
            refine ⟨rv2, rfl, bx2.cell (j := 3) rfl, ?_⟩
            rw [srtP_perm (hp1.map key)] at pr1
            have hln : (srtP ((dueX lx (waits a3)).map key)).length ≤ 100000 := by
              have e1 := (List.mergeSort_perm ((dueX lx (waits a3)).map key) (fun a b => !(ltOf ris) b a)).length_eq
              have e2 : (srtP ((dueX lx (waits a3)).map key)).length = ((dueX lx (waits a3)).map key).length := e1
              rw [List.length_map] at e2
              omega
            refine (pequal (pr1.keep k2 (fun b hb _ e => ?_)) (Pr.ofOwn o2) hln).mono ?_
            · have h1 := HXT.out
              have h2 : zb.drew.heap.size ≤ b := hb
              have h3 : zb.drew.heap.size = zb.heap.size := rfl
              omega
            · rintro e z3 ⟨rfl, k3⟩
              exact ⟨rfl, (bx2.keep k3 id).cell (j := 3) rfl, P2.keep0 k3⟩
          clear Pb Pd kd KBz hfr hBx HLT
          refine le8_region ⟨by kernel_rfl, by kernel_rfl, by kernel_rfl, by kernel_rfl, by kernel_rfl, by kernel_rfl, by kernel_rfl, by kernel_rfl, by kernel_rfl, by kernel_rfl, by kernel_rfl, by kernel_rfl, by kernel_rfl, by kernel_rfl, by kernel_rfl, by kernel_rfl, by kernel_rfl, by kernel_rfl⟩ L w1.heap.size wr.heap.size a3 undef undef (fun d _ _ _ _ h => by cases d <;> exact h) (by rfl) (by rfl) (by rfl) (by rfl) hS0 (fun z => Lp w z w1.heap.size L h m (k + 1)) hc8 ?_
          intro rv1 rv2 z9 hlp
          have HT : Hid (Lp w z9 w1.heap.size L h m (k + 1)) := hlp
          clear hc8 hS0 hlp
          simp only [Act.put, List.setIfInBounds_toArray, List.set_cons_succ, List.set_cons_zero]
          obtain ⟨v9, l9, lx9, kw9, P9, hl9, h9, f9⟩ := HT.out
          have heq : srtP (l9.map key) = srtP (lx9.map key) := srtP_perm (P9.p.map key)
          have hal := lall_ok P9.z (by have := P9.len; omega)
          rw [heq] at hal
          have HAL : Hid (Calls _ _ _ z9 _) := hal
          have HAX : Hid (∀ z, Kp (fun _ => False) z9 z → Calls _ _ _ z _) := fun z kz => by
            have hx := (P9.keep0 kz).x
            exact xall_ok (hx.choose_spec.1.cell (j := 0) rfl) (Xr.ofOwn hx.choose_spec.2.1) P9.d (by omega)
          have HLN : Hid ((srtP (lx9.map key)).length ≤ 100000) := by
            have e1 := (List.mergeSort_perm (lx9.map key) (fun a b => !(ltOf ris) b a)).length_eq
            have e2 : (srtP (lx9.map key)).length = (lx9.map key).length := e1
            rw [List.length_map] at e2
            show _ ≤ _
            omega
          clear hal heq P9 kw9 f9 hl9 h9
          go_wp2_with fail
          refine HAL.out.mono ?_
          rintro e y1 ⟨rv1, rfl, ka, pr1⟩
          have HP1 : Hid (Kp (fun _ => False) z9 y1 ∧ Pr y1 (fun b => z9.heap.size ≤ b) rv1 (srtP (lx9.map key))) := ⟨ka, pr1⟩
          clear ka pr1 HAL
          go_wp2_with fail
          refine (HAX.out _ HP1.out.1).mono ?_
          rintro e y2 ⟨rv2, rfl, kb, o2⟩
          have HEQ : Hid (Calls _ _ _ y2 _) := pequal (HP1.out.2.keep kb (fun _ _ _ e => e)) (Pr.ofOwn o2) HLN.out
          have HK2y : Hid (Kp (fun _ => False) z9 y2) := HP1.out.1.trans kb (fun _ _ e => e)
          clear kb o2 HAX HP1 HLN
          go_wp2_with fail
          refine HEQ.out.mono ?_
          rintro e y3 ⟨rfl, kc⟩
          have HR : Hid (Lp w y3 w1.heap.size L h m (k + 1)) := HT.out.keep0 (HK2y.out.trans kc (fun _ _ e => e))
          clear HEQ HK2y kc HT
          go_wp2
          go_roundg (N - (k + 1))
          case rel => exact ⟨k + 1, by have := HKN.out; omega, rfl, by go_num, HR⟩
          case measure => have := HKN.out; omega
    · have HT0 : Hid (Lp w wr w1.heap.size L h m k) := HS
      obtain ⟨z9, hz9⟩ : ∃ x, x = wr := ⟨_, rfl⟩
      have HT : Hid (Lp w z9 w1.heap.size L h m k) := by rw [hz9]; exact HS.out
      clear HS HT0
      go_wp2_with fail
      rw [← hz9]
      clear hz9
      obtain ⟨v9, l9, lx9, kw9, P9, hl9, h9, f9⟩ := HT.out
      have heq : srtP (l9.map key) = srtP (lx9.map key) := srtP_perm (P9.p.map key)
      have HKW9 : Hid (Kp (fun _ => False) w z9) := kw9
      have hal := lall_ok P9.z (by have := P9.len; omega)
      rw [heq] at hal
      obtain ⟨nn, hnn⟩ : ∃ nn, nn = (srtP (lx9.map key)).length := ⟨_, rfl⟩
      have HAX : Hid (∀ z, Kp (fun _ => False) z9 z → Calls Try.prog 18 #[.pointer (some ⟨w1.heap.size, 0, none⟩)] z fun e w' => ∃ q2 d2, e = .returned (.slice q2 nn d2) ∧ Kp (fun _ => False) z w') := fun z kz => by
        obtain ⟨vx, lvx, ownx, _⟩ := (P9.keep0 kz).x
        refine (xall_ok (lvx.cell (j := 0) rfl) (Xr.ofOwn ownx) P9.d (by omega)).mono ?_
        rintro e w' ⟨rv, rfl, ka, o2⟩
        obtain ⟨q2, d2, hrv, _⟩ := Pr.ofOwn o2
        rw [hnn, hrv]
        exact ⟨q2, d2, rfl, ka⟩
      have HAL : Hid (Calls Try.prog 17 #[.pointer (some ⟨L, 0, none⟩)] z9 fun e w' => ∃ q1 d1, e = .returned (.slice q1 nn d1) ∧ Kp (fun _ => False) z9 w') := by
        refine hal.mono ?_
        rintro e w' ⟨rv, rfl, ka, q1, d1, hrv, _⟩
        rw [hnn, hrv]
        exact ⟨q1, d1, rfl, ka⟩
      have HU : Hid (∀ z, Calls Try.prog 19 #[.int .i64 0] z fun e w' => e = .returned (.int .i64 40) ∧ w' = z) := fun z => until_ok 0 z
      clear hal heq hnn P9 kw9 f9 hl9 h9 HT
      go_wp2_with (first
        | (go_at_call 17; refine HAL.out.mono ?_; rintro e y1 ⟨q1, d1, rfl, ka⟩; have HK1y : Hid (Kp (fun _ => False) z9 y1) := ka; clear ka)
        | (go_at_call 18; refine (HAX.out _ HK1y.out).mono ?_; rintro e y2 ⟨q2, d2, rfl, kb⟩; have HK2y : Hid (Kp (fun _ => False) y1 y2) := kb; clear kb)
        | (go_at_call 19; refine (HU.out _).mono ?_; rintro e y3 ⟨rfl, hy3⟩; subst hy3))
      go_ret
      exact ⟨rfl, (HKW9.out.trans HK1y.out (fun _ _ e => e)).trans HK2y.out (fun _ _ e => e)⟩
end Go.Proofs.Ytnpaoppfhffoiaa
