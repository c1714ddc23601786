/- The walk of the law ReedEncodes: all shards of the data, or the error, of anything; the data stay. -/
import Derived.Test.YtmccmppijpcfbaaDoorR8
import Derived.Test.YtmccmppijpcfbaaDoorM18
import Derived.RegionTactic
import Derived.BigRegion
namespace Go.Proofs.YtmccmppijpcfbaaDoor
open Go.RowKit Go.Deep

/-- an answer: a matrix, or nothing and an error -/
def Ans (w : World) (v : Value) (c : Int) (n m : Nat) (M : Nat → Nat → Nat) : Prop := (c = 0 ∧ Mx w v n m M) ∨ (c ≠ 0 ∧ v = .slice none 0 0)
theorem Ans.keep {w w' : World} {v : Value} {c : Int} {n m : Nat} {M : Nat → Nat → Nat} (h : Ans w v c n m M) (k : Kp (fun _ => False) w w') : Ans w' v c n m M := by
  rcases h with ⟨h1, h2⟩ | h
  · exact Or.inl ⟨h1, h2.keep k⟩
  · exact Or.inr h
theorem Ans.same {w : World} {v u : Value} {c : Int} {n m : Nat} {M : Nat → Nat → Nat} (h : Ans w v c n m M) (g : Ans w u c n m M) (hn : n ≤ 1000000) : Calls Tryd.prog 15 #[v, u] w fun e w' => e = .returned (.bool true) ∧ w' = w := by
  rcases h with ⟨h1, h2⟩ | ⟨h1, rfl⟩
  · rcases g with ⟨_, g2⟩ | ⟨g1, _⟩
    · exact sameX v u n m M M w h2 g2 (fun _ _ _ _ => rfl) hn
    · exact absurd h1 g1
  · rcases g with ⟨g1, _⟩ | ⟨_, rfl⟩
    · exact absurd g1 h1
    · exact sameNil w
/-- rows of the program's own that may be written over, or nothing -/
def Wr (w w' : World) (v : Value) : Prop := v = .slice none 0 0 ∨ ∃ t B R C cap, v = .slice (some ⟨t, 0, none⟩) R cap ∧ Wri w' t B R C ∧ R ≤ 255 ∧ C ≤ 255 ∧ ∀ i, i < R → w.heap.size ≤ B i
theorem Wr.spoil {w w' : World} {v : Value} (h : Wr w w' v) : Calls Tryd.prog 25 #[v] w' fun e w'' => e = .returned (.tuple #[]) ∧ Kp (fun b => w.heap.size ≤ b) w' w'' := by
  rcases h with rfl | ⟨t, B, R, C, cap, rfl, hW, hR, hC, hB⟩
  · refine (spoil_nil w').mono ?_
    rintro e w'' ⟨rfl, rfl⟩
    exact ⟨rfl, Kp.refl _ _⟩
  · refine (spoil_any t cap B R C w' hW (by omega) (by omega)).mono ?_
    rintro e w'' ⟨rfl, k⟩
    exact ⟨rfl, k.mono (fun b _ ⟨i, hi, e⟩ => by rw [e]; exact hB i hi)⟩
theorem Wr.keep {w w' w'' : World} {v : Value} (h : Wr w w' v) (k : Kp (fun _ => False) w' w'') : Wr w w'' v := by
  rcases h with rfl | ⟨t, B, R, C, cap, rfl, hW, hR, hC, hB⟩
  · exact Or.inl rfl
  · exact Or.inr ⟨t, B, R, C, cap, rfl, ⟨k.row hW.top id, fun i hi => by obtain ⟨f, hf, hr⟩ := hW.row i hi; exact ⟨f, hf, k.row hr id⟩, hW.inj, hW.ne⟩, hR, hC, hB⟩


theorem encodeU (K M : Int) (s : Sh) (hw : 1 ≤ K → wrap64 (255 - K) = 255 - K) (hG : s.G ≤ 40) (hL : ∀ r, s.L r ≤ 24) : ∃ (c : Int) (n m : Nat) (D : Nat → Nat → Nat), n ≤ 1000000 ∧ ∀ (s' : Sh) (w : World), s'.G = s.G → s'.L = s.L → s'.M = s.M → Rd w s' →
    (Pows w → Calls Tryd.prog 21 #[.agg #[.int .i64 K, .int .i64 M], .slice s'.g s'.G s'.cap] w fun e w' => ∃ v, e = .returned (.tuple #[v, .int .i64 c]) ∧ Kp (fun _ => False) w w' ∧ Ans w' v c n m D ∧ Wr w w' v) ∧
    (Calls Tryd.prog 22 #[.agg #[.int .i64 K, .int .i64 M], .slice s'.g s'.G s'.cap] w fun e w' => ∃ v, e = .returned (.tuple #[v, .int .i64 c]) ∧ Kp (fun _ => False) w w' ∧ Ans w' v c n m D) := by
  by_cases h : Fit K M s
  · obtain ⟨⟨h1, h2, h3⟩, h4, h5, h6⟩ := h
    obtain ⟨m, rfl⟩ : ∃ m : Nat, M = (m : Int) := ⟨M.toNat, by omega⟩
    subst h4
    have hL0 := hL 0
    refine ⟨0, s.G + m, s.L 0, enc s.G s.M, by omega, fun s' w e1 e2 e3 hs => ?_⟩
    rw [e1]
    refine ⟨fun hp => (encode_yes s.G m (s.L 0) s' w hs e1 (fun r hr => by rw [e2]; exact h6 r hr) h1 h3 hp (by omega) (by omega)).mono ?_, (refEncode_yes s.G m (s.L 0) s' w hs e1 (fun r hr => by rw [e2]; exact h6 r hr) h1 h3 (by omega) (by omega)).mono ?_⟩
    · rw [e3]
      rintro e w' ⟨t, B, rfl, hK, _, hB, hM⟩
      exact ⟨_, rfl, hK, Or.inl ⟨rfl, hM.mx⟩, Or.inr ⟨t, B, s.G + m, s.L 0, _, rfl, hM.wri, by omega, by omega, hB⟩⟩
    · rw [e3]
      rintro e w' ⟨v, rfl, hK, hM⟩
      exact ⟨v, rfl, hK, Or.inl ⟨rfl, hM⟩⟩
  · refine ⟨1, 0, 0, fun _ _ => 0, by omega, fun s' w e1 e2 e3 hs => ?_⟩
    have h' : ¬ Fit K M s' := by unfold Fit; rw [e1, e2]; exact h
    refine ⟨fun _ => (encode_bad K M s' w hs hw h').mono ?_, (refEncode_no K M s' w hs (by omega) h').mono ?_⟩
    · rintro e w' ⟨rfl, hK⟩; exact ⟨_, rfl, hK, Or.inr ⟨by omega, rfl⟩, Or.inl rfl⟩
    · rintro e w' ⟨rfl, hK⟩; exact ⟨_, rfl, hK, Or.inr ⟨by omega, rfl⟩⟩
theorem canU (K M : Int) (hw : 1 ≤ K → wrap64 (255 - K) = 255 - K) : ∃ b : Bool, ∀ w, (Calls Tryd.prog 23 #[.agg #[.int .i64 K, .int .i64 M]] w fun e w' => e = .returned (.bool b) ∧ Kp (fun _ => False) w w') ∧
    (Calls Tryd.prog 24 #[.agg #[.int .i64 K, .int .i64 M]] w fun e w' => e = .returned (.bool b) ∧ Kp (fun _ => False) w w') := by
  by_cases h : 1 ≤ K ∧ 0 ≤ M ∧ M ≤ 255 - K
  · exact ⟨true, fun w => ⟨can_yes K M w h.1 h.2.1 h.2.2, refCan_yes K M w h.1 h.2.1 h.2.2⟩⟩
  · exact ⟨false, fun w => ⟨can_no K M w hw h, refCan_no K M w h⟩⟩

set_option maxRecDepth 100000 in
set_option maxHeartbeats 3200000 in
theorem encodes_walk (K M : Int) (v : Value) (s : Sh) (w : World) (hw : 1 ≤ K → wrap64 (255 - K) = 255 - K) (h : Tw w v s) (hp : Pows w) :
    Calls Tryd.prog 7 #[.agg #[.int .i64 K, .int .i64 M], v] w fun e w' => e = .returned (.bool true) ∧ Kp (fun _ => False) w w' := by
  obtain ⟨wa, hwa⟩ : ∃ x, x = w.alloc (.cells #[.int .i64 K, .int .i64 M] 25) := ⟨_, rfl⟩
  have q1 : wa.cell? ⟨w.heap.size, 0, none⟩ = some (.int .i64 K) := by rw [hwa]; go_simp
  have q2 : wa.cell? ⟨w.heap.size, 1, none⟩ = some (.int .i64 M) := by rw [hwa]; go_simp
  have k0 : Kp (fun _ => False) w wa := by rw [hwa]; exact (Kp.refl _ _).alloc _
  have HSm : Hid (Calls _ _ _ wa _) := small_any K M v s wa ⟨h.val, h.rd.keep k0, h.cap, h.lc, h.big, h.long⟩
  obtain ⟨s1, hs1⟩ : ∃ x : Sh, x = ⟨none, min s.G 40, 0, 0, 0, fun _ => none, fun r => min (s.L r) 24, fun _ => 0, fun _ => 0, fun _ => 0, s.M⟩ := ⟨_, rfl⟩
  obtain ⟨N, hN⟩ : ∃ N, N = min s.G 40 := ⟨_, rfl⟩
  obtain ⟨L, hL⟩ : ∃ L : Nat → Nat, L = fun r => min (s.L r) 24 := ⟨_, rfl⟩
  rw [← hN, ← hL] at hs1 HSm
  have hNb : (N : Int) ≤ 40 := by omega
  have HLb : Hid (∀ r, L r ≤ 24) := fun r => by rw [hL]; simp only; omega
  obtain ⟨c, n, m, D, hn, hU⟩ := encodeU K M s1 hw (by rw [hs1]; show N ≤ 40; omega) (fun r => by rw [hs1]; exact HLb.out r)
  obtain ⟨b, hCan⟩ := canU K M hw
  rw [hs1] at hU
  have HU : Hid _ := hU
  have HCn : Hid _ := hCan
  have q3 : (c != c) = false := bne_self_eq_false _
  have q4 : (b != b) = false := bne_self_eq_false _
  have HTx : Hid (∀ s' w', s'.G = N → s'.L = L → Rd w' s' → Calls _ _ _ w' _) := fun s' w' e1 e2 h' => texts_any s' w' h' (show s'.G * 24 ≤ 140737488355328 by rw [e1]; omega) (fun r _ => show s'.L r ≤ 140737488355328 by rw [e2]; have := HLb.out r; omega)
  clear h hU hCan hw hs1 hN hL
  go_enter Tryd.func7, Tryd.ntmps7
  go_wp2_with fail
  rw [← hwa]
  refine HSm.out.mono ?_
  rintro e w1 ⟨g1, cap1, gb1, A1, C1, RB1, rfl, k1, hO1⟩
  have kk1 := k0.trans k1 (fun _ _ e => e)
  have a1 := k1.cellv q1 id
  have a2 := k1.cellv q2 id
  have H1 : Hid (Rd w1 _) := hO1.rd
  clear HSm hO1 hwa q1 q2 k0 k1
  go_wp2_with fail
  refine (HTx.out ⟨g1, N, cap1, gb1, 0, A1, L, C1, RB1, fun _ => 0, s.M⟩ w1 rfl rfl H1.out).mono ?_
  rintro e w2 ⟨g2, cap2, gb2, A2, C2, RB2, rfl, k2, hO2⟩
  have kk2 := kk1.trans k2 (fun _ _ e => e)
  have b1 := k2.cellv a1 id
  have b2 := k2.cellv a2 id
  have H2 : Hid (Rd w2 _) := hO2.rd
  have H1b : Hid (Rd w2 _) := H1.out.keep k2
  clear HTx hO2 H1 a1 a2
  go_wp2_with fail
  refine ((HU.out ⟨g2, N, cap2, gb2, 0, A2, L, C2, RB2, fun _ => 0, s.M⟩ w2 rfl rfl rfl H2.out).1 (kk2.pows hp id)).mono ?_
  rintro e w3 ⟨v3, rfl, k3, hA3, hW3⟩
  have kk3 := kk2.trans k3 (fun _ _ e => e)
  have c1 := k3.cellv b1 id
  have c2 := k3.cellv b2 id
  clear b1 b2
  go_wp2_with fail
  refine ((HU.out ⟨g1, N, cap1, gb1, 0, A1, L, C1, RB1, fun _ => 0, s.M⟩ w3 rfl rfl rfl (H1b.out.keep k3)).2).mono ?_
  rintro e w4 ⟨v4, rfl, k4, hA4⟩
  have kk4 := kk3.trans k4 (fun _ _ e => e)
  have d1 := k4.cellv c1 id
  have d2 := k4.cellv c2 id
  have HSa : Hid (∀ w', Kp (fun _ => False) w4 w' → Calls Tryd.prog 15 #[v3, v4] w' fun e w'' => e = .returned (.bool true) ∧ w'' = w') := fun w' k => ((hA3.keep k4).keep k).same (hA4.keep k) hn
  have HWr : Hid (Wr w2 w4 v3) := hW3.keep k4
  clear HU hA3 hA4 hW3 c1 c2
  go_wp2_with fail
  go_region_with (first
    | (go_at_call 15; refine (HSa.out _ (by exact ⟨rfl, rfl, rfl, Nat.le_refl _, fun _ _ _ => rfl⟩)).mono ?_; rintro e w5 ⟨rfl, rfl⟩)
    | (go_at_call 23; refine (HCn.out _).1.mono ?_; rintro e w5 ⟨rfl, k5⟩; have e1 := k5.cellv (show World.cell? _ ⟨w.heap.size, 0, none⟩ = some (.int .i64 K) from d1) id; have e2 := k5.cellv (show World.cell? _ ⟨w.heap.size, 1, none⟩ = some (.int .i64 M) from d2) id)
    | (go_at_call 24; refine (HCn.out _).2.mono ?_; rintro e w6 ⟨rfl, k6⟩))
  all_goals
    have k46 : Kp (fun _ => False) w4 w6 := ((Kp.refl (fun _ => False) w4).drew.trans k5 (fun _ _ e => e)).trans k6 (fun _ _ e => e)
    have HSp : Hid (Calls _ _ _ w6 _) := (HWr.out.keep k46).spoil
    have k26 : Kp (fun _ => False) w2 w6 := (k3.trans k4 (fun _ _ e => e)).trans k46 (fun _ _ e => e)
    clear e1 e2 d1 d2 k5 k6 HSa HCn HWr
    go_wp2_with fail
    refine HSp.out.mono ?_
    rintro e w7 ⟨rfl, k7⟩
    have k27 : Kp (fun _ => False) w2 w7 := k26.trans k7 (fun b hb e => by omega)
    have kk7 := kk2.trans k27 (fun _ _ e => e)
    have HS8 : Hid (Calls _ _ _ w7 _) := sameTexts_any ⟨g2, N, cap2, gb2, 0, A2, L, C2, RB2, fun _ => 0, s.M⟩ ⟨g1, N, cap1, gb1, 0, A1, L, C1, RB1, fun _ => 0, s.M⟩ w7 (H2.out.keep k27) (H1b.out.keep k27) (by show (N : Int) ≤ _; omega) true (fun _ => ⟨rfl, fun r _ => ⟨rfl, fun c _ => rfl⟩⟩) (fun h => by cases h)
    clear HSp k7
    go_wp2_with fail
    refine HS8.out.mono ?_
    rintro e w' ⟨rfl, hw8⟩
    obtain rfl := hw8.symm
    go_wp2_with fail
    refine (can_yes 1 0 _ (by omega) (by omega) (by omega)).mono ?_
    rintro e w8 ⟨rfl, k8⟩
    go_wp2
    go_ret
    exact ⟨rfl, kk7.trans k8 (fun _ _ e => e)⟩
end Go.Proofs.YtmccmppijpcfbaaDoor
