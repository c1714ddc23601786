/- The walk of the law ReedDecodes: all shards of some, one of them, and whether all are right, of anything; they stay. -/
import Derived.Test.YtbmhfclknilcoaaDoorRd5
import Derived.Deep.QuietTactic
import Derived.BigQuiet
namespace Go.Proofs.YtbmhfclknilcoaaDoor
open Go.RowKit Go.Deep

/-- a region that draws its order, over a class of worlds -/
theorem wp_region_quiet_lit_C {P : Program} {C : World → Prop} {id : Nat} {Q : Exit → Act → World → Prop} {a : Act} {w : World} {l : List Oper} (hm : P.follows .mixedOrders = true) (hB : Region.lexB .any l.toArray = true) (hC : C { w with drawn := w.drawn + 1 })
    (h : wpQuiet P l.toArray C (fun a' => ∀ w', C w' → Q .normal a' w') l a) : (Code.region id l.toArray true).wp P Q a w :=
  wp_region_quiet hm hB hC (by simpa using h)

set_option maxRecDepth 100000 in
set_option maxHeartbeats 3200000 in
theorem decodes_walk (K M : Int) (v : Value) (s : Sh) (i : Int) (w : World) (hw : 1 ≤ K → wrap64 (255 - K) = 255 - K) (h : Tw w v s) (hp : Pows w) :
    Calls Tryd.prog 3 #[.agg #[.int .i64 K, .int .i64 M], v, .int .i64 i] w fun e w' => e = .returned (.bool true) ∧ Kp (fun _ => False) w w' := by
  obtain ⟨wa, hwa, k0, _, q1, q2⟩ := code_alloc w K M
  have HSm : Hid (Calls _ _ _ wa _) := small_any K M v s wa ⟨h.val, h.rd.keep k0, h.cap, h.lc, h.big, h.long⟩
  obtain ⟨s1, hs1⟩ : ∃ x : Sh, x = ⟨none, min s.G 40, 0, 0, 0, fun _ => none, fun r => min (s.L r) 24, fun _ => 0, fun _ => 0, fun _ => 0, s.M⟩ := ⟨_, rfl⟩
  obtain ⟨N, hN⟩ : ∃ N, N = min s.G 40 := ⟨_, rfl⟩
  obtain ⟨L, hL⟩ : ∃ L : Nat → Nat, L = fun r => min (s.L r) 24 := ⟨_, rfl⟩
  rw [← hN, ← hL] at hs1 HSm
  have hNb : (N : Int) ≤ 40 := by omega
  have HLb : Hid (∀ r, L r ≤ 24) := fun r => by rw [hL]; simp only; omega
  obtain ⟨c, n, m, D, hn, hU⟩ := decU K M s1 hw (fun r => by rw [hs1]; exact HLb.out r)
  obtain ⟨d, nr, f, hV⟩ := repU K M i s1 hw (fun r => by rw [hs1]; exact HLb.out r)
  obtain ⟨b, hR⟩ := rightU K M s1 hw (fun r => by rw [hs1]; exact HLb.out r)
  rw [hs1] at hU hV hR
  have HU : Hid _ := hU
  have HV : Hid _ := hV
  have HR : Hid _ := hR
  have q3 : (c != c) = false := bne_self_eq_false _
  have q5 : (d != d) = false := bne_self_eq_false _
  have q4 : (b != b) = false := bne_self_eq_false _
  have HTx : Hid (∀ s' w', s'.G = N → s'.L = L → Rd w' s' → Calls _ _ _ w' _) := fun s' w' e1 e2 h' => texts_any s' w' h' (show s'.G * 24 ≤ 140737488355328 by rw [e1]; omega) (fun r _ => show s'.L r ≤ 140737488355328 by rw [e2]; have := HLb.out r; omega)
  clear h hU hV hR hw hs1 hN hL
  go_enter Tryd.func3, Tryd.ntmps3
  go_wp2_with fail
  rw [← hwa]
  refine HSm.out.mono ?_
  rintro e w1 ⟨g1, cap1, gb1, A1, C1, RB1, rfl, k1, hO1⟩
  have kk1 := k0.trans k1 (fun _ _ e => e)
  have a1 := k1.cellv q1 id
  have a2 := k1.cellv q2 id
  have H1 : Hid (Rd w1 _) := hO1.rd
  have HC1 : Hid (N ≤ cap1) := hO1.cap
  clear HSm hO1 hwa q1 q2 k0 k1
  go_wp2_with fail
  refine (HTx.out ⟨g1, N, cap1, gb1, 0, A1, L, C1, RB1, fun _ => 0, s.M⟩ w1 rfl rfl H1.out).mono ?_
  rintro e w2 ⟨g2, cap2, gb2, A2, C2, RB2, rfl, k2, hO2⟩
  have kk2 := kk1.trans k2 (fun _ _ e => e)
  have b1 := k2.cellv a1 id
  have b2 := k2.cellv a2 id
  have H2 : Hid (Rd w2 _) := hO2.rd
  have HC2 : Hid (N ≤ cap2) := hO2.cap
  have H1b : Hid (Rd w2 _) := H1.out.keep k2
  clear HTx hO2 H1 a1 a2
  go_wp2_with fail
  refine ((HU.out ⟨g2, N, cap2, gb2, 0, A2, L, C2, RB2, fun _ => 0, s.M⟩ w2 rfl rfl rfl H2.out).1 (kk2.pows hp id)).mono ?_
  rintro e w3 ⟨v3, rfl, k3, hA3, hW3⟩
  have kk3 := kk2.trans k3 (fun _ _ e => e)
  have c1 := k3.cellv b1 id
  have c2 := k3.cellv b2 id
  clear b1 b2
  go_wp2_with fail
  refine ((HU.out ⟨g1, N, cap1, gb1, 0, A1, L, C1, RB1, fun _ => 0, s.M⟩ w3 rfl rfl rfl (H1b.out.keep k3)).2).mono ?_
  rintro e w4 ⟨v4, rfl, k4, hA4⟩
  have k24 := k3.trans k4 (fun _ _ e => e)
  have kk4 := kk3.trans k4 (fun _ _ e => e)
  have d1 := k4.cellv c1 id
  have d2 := k4.cellv c2 id
  clear HU c1 c2
  go_wp2_with fail
  refine ((HV.out ⟨g2, N, cap2, gb2, 0, A2, L, C2, RB2, fun _ => 0, s.M⟩ w4 rfl rfl rfl (H2.out.keep k24)).1 (kk4.pows hp id)).mono ?_
  rintro e w5 ⟨v5, rfl, k5, hB5⟩
  have k25 := k24.trans k5 (fun _ _ e => e)
  have kk5 := kk4.trans k5 (fun _ _ e => e)
  have e1 := k5.cellv d1 id
  have e2 := k5.cellv d2 id
  clear d1 d2
  go_wp2_with fail
  refine ((HV.out ⟨g1, N, cap1, gb1, 0, A1, L, C1, RB1, fun _ => 0, s.M⟩ w5 rfl rfl rfl (H1b.out.keep k25)).2).mono ?_
  rintro e w6 ⟨v6, rfl, k6, hB6⟩
  have k26 := k25.trans k6 (fun _ _ e => e)
  have k46 := k5.trans k6 (fun _ _ e => e)
  have kk6 := kk5.trans k6 (fun _ _ e => e)
  have f1 := k6.cellv e1 id
  have f2 := k6.cellv e2 id
  clear HV e1 e2
  have HSa : Hid (∀ w', Kp (fun _ => False) w6 w' → Calls Tryd.prog 11 #[v3, v4] w' fun e w'' => e = .returned (.bool true) ∧ w'' = w') := fun w' k => (((hA3.keep k4).keep k46).keep k).same ((hA4.keep k46).keep k) hn
  have HEq : Hid (∀ w', Kp (fun _ => False) w6 w' → Calls Tryd.prog 12 #[v5, v6] w' fun e w'' => e = .returned (.bool true) ∧ w'' = w') := fun w' k => ((hB5.keep k6).keep k).same (hB6.keep k)
  have HR1 : Hid (∀ w', Kp (fun _ => False) w6 w' → Calls Tryd.prog 13 #[.agg #[.int .i64 K, .int .i64 M], .slice g2 N cap2] w' fun e w'' => e = .returned (.bool b) ∧ Kp (fun _ => False) w' w'') := fun w' k => (HR.out ⟨g2, N, cap2, gb2, 0, A2, L, C2, RB2, fun _ => 0, s.M⟩ w' rfl rfl rfl HC2.out ((H2.out.keep k26).keep k)).1 ((kk6.trans k (fun _ _ e => e)).pows hp id)
  have HR2 : Hid (∀ w', Kp (fun _ => False) w6 w' → Calls Tryd.prog 14 #[.agg #[.int .i64 K, .int .i64 M], .slice g1 N cap1] w' fun e w'' => e = .returned (.bool b) ∧ Kp (fun _ => False) w' w'') := fun w' k => (HR.out ⟨g1, N, cap1, gb1, 0, A1, L, C1, RB1, fun _ => 0, s.M⟩ w' rfl rfl rfl HC1.out ((H1b.out.keep k26).keep k)).2
  have HWr : Hid (Wr w2 w6 v3) := (hW3.keep k4).keep k46
  clear hA3 hA4 hB5 hB6 hW3 HR HC1 HC2
  obtain ⟨J, W, hne, hW, hJ⟩ : ∃ (J : Type) (W : J → World), Nonempty J ∧ Hid (∀ j, Kp (fun _ => False) w6 (W j)) ∧ Hid (∀ x, Kp (fun _ => False) w6 x → ∃ j, x = W j) :=
    ⟨{x // Kp (fun _ => False) w6 x}, Subtype.val, ⟨⟨w6, Kp.refl _ _⟩⟩, fun j => j.2, fun x h => ⟨⟨x, h⟩, rfl⟩⟩
  have z1 : ∀ j, (W j).cell? ⟨w.heap.size, 0, none⟩ = some (.int .i64 K) := fun j => (hW.out j).cellv f1 id
  have z2 : ∀ j, (W j).cell? ⟨w.heap.size, 1, none⟩ = some (.int .i64 M) := fun j => (hW.out j).cellv f2 id
  clear f1 f2
  go_wp2
  refine wp_region_quiet_lit_C (C := fun w' => ∃ j, w' = W j) (by kernel_rfl) (by kernel_rfl) (hJ.out _ (Kp.refl _ _).drew) ?_
  repeat (first
    | quiet_step (first
      | (go_at_call 11; exact (HSa.out _ (hW.out _)).mono (fun e w'' ⟨he, hw⟩ => ⟨he, _, hw⟩))
      | (go_at_call 12; exact (HEq.out _ (hW.out _)).mono (fun e w'' ⟨he, hw⟩ => ⟨he, _, hw⟩))
      | (go_at_call 13; exact (HR1.out _ (hW.out _)).mono (fun e w'' ⟨he, hk⟩ => ⟨he, hJ.out _ ((hW.out _).trans hk (fun _ _ e => e))⟩))
      | (go_at_call 14; exact (HR2.out _ (hW.out _)).mono (fun e w'' ⟨he, hk⟩ => ⟨he, hJ.out _ ((hW.out _).trans hk (fun _ _ e => e))⟩))))
  refine wpQuiet_nil ?_
  rintro w7 ⟨j, rfl⟩
  have k67 := hW.out j
  have HSp : Hid (Calls _ _ _ (W j) _) := (HWr.out.keep k67).spoil
  have k27 : Kp (fun _ => False) w2 (W j) := k26.trans k67 (fun _ _ e => e)
  clear hW hJ z1 z2 HSa HEq HR1 HR2 HWr
  go_wp2_with fail
  refine HSp.out.mono ?_
  rintro e w8 ⟨rfl, k8⟩
  have k28 : Kp (fun _ => False) w2 w8 := k27.trans k8 (fun b hb e => by omega)
  have kk8 := kk2.trans k28 (fun _ _ e => e)
  have HS8 : Hid (Calls _ _ _ w8 _) := sameTexts_any ⟨g2, N, cap2, gb2, 0, A2, L, C2, RB2, fun _ => 0, s.M⟩ ⟨g1, N, cap1, gb1, 0, A1, L, C1, RB1, fun _ => 0, s.M⟩ w8 (H2.out.keep k28) (H1b.out.keep k28) (by show (N : Int) ≤ _; omega) true (fun _ => ⟨rfl, fun r _ => ⟨rfl, fun c _ => rfl⟩⟩) (fun h => by cases h)
  clear HSp k8
  go_wp2_with fail
  refine HS8.out.mono ?_
  rintro e w' ⟨rfl, hw8⟩
  obtain rfl := hw8.symm
  go_wp2_with fail
  refine (can_yes 1 0 _ (by omega) (by omega) (by omega)).mono ?_
  rintro e w9 ⟨rfl, k9⟩
  go_wp2
  go_ret
  exact ⟨rfl, kk8.trans k9 (fun _ _ e => e)⟩
end Go.Proofs.YtbmhfclknilcoaaDoor
