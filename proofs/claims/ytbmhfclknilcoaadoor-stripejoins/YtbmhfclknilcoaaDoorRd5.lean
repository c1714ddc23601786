/- What both sides answer of whatever shards, in one statement each. -/
import Derived.Test.YtbmhfclknilcoaaDoorRd4
namespace Go.Proofs.YtbmhfclknilcoaaDoor
open Go.RowKit Go.Deep

/-- bytes, or nothing and an error -/
def Ba (w : World) (v : Value) (c : Int) (n : Nat) (f : Nat → Nat) : Prop :=
  (c = 0 ∧ ∃ p b o cap, v = .slice p n cap ∧ (∀ k, k < n → p = some ⟨b, o, none⟩) ∧ ∀ k, k < n → w.cell? ⟨b, o + k, none⟩ = some (.int .u8 ((f k : Nat) : Int))) ∨ (c ≠ 0 ∧ v = .slice none 0 0)
theorem Ba.keep {w w' : World} {v : Value} {c : Int} {n : Nat} {f : Nat → Nat} (h : Ba w v c n f) (k : Kp (fun _ => False) w w') : Ba w' v c n f := by
  rcases h with ⟨h1, p, b, o, cap, h2, h3, h4⟩ | h
  · exact Or.inl ⟨h1, p, b, o, cap, h2, h3, fun j hj => k.cellv (h4 j hj) id⟩
  · exact Or.inr h
theorem Ba.same {w : World} {v u : Value} {c : Int} {n : Nat} {f : Nat → Nat} (h : Ba w v c n f) (g : Ba w u c n f) : Calls Tryd.prog 12 #[v, u] w fun e w' => e = .returned (.bool true) ∧ w' = w := by
  rcases h with ⟨h1, p, b, o, cap, rfl, h3, h4⟩ | ⟨h1, rfl⟩
  · rcases g with ⟨_, p', b', o', cap', rfl, g3, g4⟩ | ⟨g1, _⟩
    · exact bytesEqual_same p p' b o b' o' n cap cap' f f w h3 g3 h4 g4 (fun _ _ => rfl)
    · exact absurd h1 g1
  · rcases g with ⟨g1, _⟩ | ⟨_, rfl⟩
    · exact absurd g1 h1
    · exact bytesEqual_same none none 0 0 0 0 0 0 0 (fun _ => 0) (fun _ => 0) w (fun _ h => absurd h (Nat.not_lt_zero _)) (fun _ h => absurd h (Nat.not_lt_zero _)) (fun _ h => absurd h (Nat.not_lt_zero _)) (fun _ h => absurd h (Nat.not_lt_zero _)) (fun _ _ => rfl)

theorem decM_fun {K : Nat} {M : Nat → Nat → Nat} (hM : ∀ i j, M i j < 256) {xs : List Nat} {W : Nat → Nat → Nat} (hE : El (fun r => gen K (xs.getD r 0)) K K W) :
    decM K M xs W (fun r => r) = enc K (fun j q => prodTo (right W K) (fun j q => M (xs.getD j 0) q) K j q) := by
  funext i p
  exact decM_assoc hM (fun i j => (hE.keeps (fun _ _ => gen_lt _ _ _)).byte _ _) _ i p

theorem decN (K M : Nat) (s : Sh) (h1 : 1 ≤ (K : Int)) (h3 : (M : Int) ≤ 255 - (K : Int)) (hG : s.G = K + M) (hL : len0 s.L (K + M) ≤ 255) : ∃ (c : Int) (D : Nat → Nat → Nat), (c = 0 → K ≤ (thereTo s.L (K + M)).length ∧ alikeTo s.L (K + M) (K + M) = true) ∧ ∀ (s' : Sh) (w : World), s'.G = s.G → s'.L = s.L → s'.M = s.M → Rd w s' →
    (Pows w → Calls Tryd.prog 7 #[.agg #[.int .i64 K, .int .i64 M], .slice s'.g s'.G s'.cap] w fun e w' => ∃ v, e = .returned (.tuple #[v, .int .i64 c]) ∧ Kp (fun _ => False) w w' ∧ Ans w' v c (K + M) (len0 s.L (K + M)) D ∧ Wr w w' v) ∧
    (Calls Tryd.prog 8 #[.agg #[.int .i64 K, .int .i64 M], .slice s'.g s'.G s'.cap] w fun e w' => ∃ v, e = .returned (.tuple #[v, .int .i64 c]) ∧ Kp (fun _ => False) w w' ∧ Ans w' v c (K + M) (len0 s.L (K + M)) D) := by
  by_cases hal : alikeTo s.L (K + M) (K + M) = true
  · by_cases hK : K ≤ (thereTo s.L (K + M)).length
    · obtain ⟨W0, hW0⟩ : ∃ W0, ∀ W, El (fun r => gen K ((firstK s.L (K + M) K).getD r 0)) K K W → W = W0 := by
        by_cases hE : ∃ W, El (fun r => gen K ((firstK s.L (K + M) K).getD r 0)) K K W
        · obtain ⟨W0, h0⟩ := hE
          exact ⟨W0, fun W h => h.unique h0⟩
        · exact ⟨fun _ _ => 0, fun W h => absurd ⟨W, h⟩ hE⟩
      refine ⟨0, enc K (fun j q => prodTo (right W0 K) (fun j q => s.M ((firstK s.L (K + M) K).getD j 0) q) K j q), fun _ => ⟨hK, hal⟩, fun s' w e1 e2 e3 hs => ?_⟩
      rw [e1, hG]
      refine ⟨fun hp => (decode_any K M s' w hs (e1.trans hG) h1 h3 hp (by rw [e2]; omega)).mono ?_, (refDecode_yes K M s' w hs (e1.trans hG) h1 h3 (by rw [e2]; exact hal) (by rw [e2]; exact hK) (by rw [e2]; omega)).mono ?_⟩
      · rw [e2, e3]
        rintro e w' ⟨hKp, ⟨hx, _⟩ | ⟨_, hx, _⟩ | ⟨_, _, t, B, W, rfl, _, hB, hE, hMt⟩⟩
        · rw [hal] at hx; cases hx
        · omega
        · have hb : ∀ i j, s.M i j < 256 := fun i j => by rw [← e3]; exact hs.byte i j
          rw [decM_fun hb hE] at hMt
          obtain rfl := hW0 W hE
          exact ⟨_, rfl, hKp, Or.inl ⟨rfl, hMt.mx⟩, Or.inr ⟨t, B, K + M, _, _, rfl, hMt.wri, by omega, hL, hB⟩⟩
      · rw [e2, e3]
        rintro e w' ⟨v, W, rfl, hKp, hE, hM⟩
        obtain rfl := hW0 W hE
        exact ⟨v, rfl, hKp, Or.inl ⟨rfl, hM⟩⟩
    · refine ⟨30, fun _ _ => 0, (fun h => absurd h (by decide)), fun s' w e1 e2 e3 hs => ?_⟩
      rw [e1, hG]
      refine ⟨fun hp => (decode_any K M s' w hs (e1.trans hG) h1 h3 hp (by rw [e2]; omega)).mono ?_, (refDecode_no K M s' w hs (e1.trans hG) h1 h3 30 (Or.inr ⟨by rw [e2]; exact hal, by rw [e2]; omega, rfl⟩)).mono ?_⟩
      · rw [e2]
        rintro e w' ⟨hKp, ⟨hx, _⟩ | ⟨_, hx, rfl⟩ | ⟨_, hx, _⟩⟩
        · rw [hal] at hx; cases hx
        · exact ⟨_, rfl, hKp, Or.inr ⟨by omega, rfl⟩, Or.inl rfl⟩
        · exact absurd hx hK
      · rintro e w' ⟨rfl, hKp⟩; exact ⟨_, rfl, hKp, Or.inr ⟨by omega, rfl⟩⟩
  · have hal' : alikeTo s.L (K + M) (K + M) = false := by simpa using hal
    refine ⟨1, fun _ _ => 0, (fun h => absurd h (by decide)), fun s' w e1 e2 e3 hs => ?_⟩
    rw [e1, hG]
    refine ⟨fun hp => (decode_any K M s' w hs (e1.trans hG) h1 h3 hp (by rw [e2]; omega)).mono ?_, (refDecode_no K M s' w hs (e1.trans hG) h1 h3 1 (Or.inl ⟨by rw [e2]; exact hal', rfl⟩)).mono ?_⟩
    · rw [e2]
      rintro e w' ⟨hKp, ⟨hx, rfl⟩ | ⟨hx, _⟩ | ⟨hx, _⟩⟩
      · exact ⟨_, rfl, hKp, Or.inr ⟨by omega, rfl⟩, Or.inl rfl⟩
      · exact absurd hx hal
      · exact absurd hx hal
    · rintro e w' ⟨rfl, hKp⟩; exact ⟨_, rfl, hKp, Or.inr ⟨by omega, rfl⟩⟩

theorem decU (K M : Int) (s : Sh) (hw : 1 ≤ K → wrap64 (255 - K) = 255 - K) (hL : ∀ r, s.L r ≤ 24) : ∃ (c : Int) (n m : Nat) (D : Nat → Nat → Nat), n ≤ 1000000 ∧ ∀ (s' : Sh) (w : World), s'.G = s.G → s'.L = s.L → s'.M = s.M → Rd w s' →
    (Pows w → Calls Tryd.prog 7 #[.agg #[.int .i64 K, .int .i64 M], .slice s'.g s'.G s'.cap] w fun e w' => ∃ v, e = .returned (.tuple #[v, .int .i64 c]) ∧ Kp (fun _ => False) w w' ∧ Ans w' v c n m D ∧ Wr w w' v) ∧
    (Calls Tryd.prog 8 #[.agg #[.int .i64 K, .int .i64 M], .slice s'.g s'.G s'.cap] w fun e w' => ∃ v, e = .returned (.tuple #[v, .int .i64 c]) ∧ Kp (fun _ => False) w w' ∧ Ans w' v c n m D) := by
  by_cases h : Vd K M s.G
  · obtain ⟨⟨h1, h2, h3⟩, h4⟩ := h
    obtain ⟨k, rfl⟩ : ∃ k : Nat, K = (k : Int) := ⟨K.toNat, by omega⟩
    obtain ⟨m, rfl⟩ : ∃ m : Nat, M = (m : Int) := ⟨M.toNat, by omega⟩
    obtain ⟨c, D, _, hD⟩ := decN k m s h1 h3 (by omega) (by unfold len0; have := hL ((thereTo s.L (k + m)).headD 0); omega)
    exact ⟨c, k + m, _, D, by omega, hD⟩
  · refine ⟨1, 0, 0, fun _ _ => 0, by omega, fun s' w e1 e2 e3 hs => ?_⟩
    refine ⟨fun _ => (decode_bad K M s'.g s'.G s'.cap w hw (by rw [e1]; exact h)).mono ?_, (refDecode_bad K M s'.g s'.G s'.cap w (by rw [e1]; exact h)).mono ?_⟩
    · rintro e w' ⟨rfl, hK⟩; exact ⟨_, rfl, hK, Or.inr ⟨by omega, rfl⟩, Or.inl rfl⟩
    · rintro e w' ⟨rfl, hK⟩; exact ⟨_, rfl, hK, Or.inr ⟨by omega, rfl⟩⟩

theorem repU (K M i : Int) (s : Sh) (hw : 1 ≤ K → wrap64 (255 - K) = 255 - K) (hL : ∀ r, s.L r ≤ 24) : ∃ (c : Int) (n : Nat) (f : Nat → Nat), ∀ (s' : Sh) (w : World), s'.G = s.G → s'.L = s.L → s'.M = s.M → Rd w s' →
    (Pows w → Calls Tryd.prog 9 #[.agg #[.int .i64 K, .int .i64 M], .slice s'.g s'.G s'.cap, .int .i64 i] w fun e w' => ∃ v, e = .returned (.tuple #[v, .int .i64 c]) ∧ Kp (fun _ => False) w w' ∧ Ba w' v c n f) ∧
    (Calls Tryd.prog 10 #[.agg #[.int .i64 K, .int .i64 M], .slice s'.g s'.G s'.cap, .int .i64 i] w fun e w' => ∃ v, e = .returned (.tuple #[v, .int .i64 c]) ∧ Kp (fun _ => False) w w' ∧ Ba w' v c n f) := by
  by_cases h : Vd K M s.G
  · by_cases hi : 0 ≤ i ∧ i < K + M
    · obtain ⟨⟨h1, h2, h3⟩, h4⟩ := h
      obtain ⟨k, rfl⟩ : ∃ k : Nat, K = (k : Int) := ⟨K.toNat, by omega⟩
      obtain ⟨m, rfl⟩ : ∃ m : Nat, M = (m : Int) := ⟨M.toNat, by omega⟩
      obtain ⟨j, rfl⟩ : ∃ j : Nat, i = (j : Int) := ⟨i.toNat, by omega⟩
      have hG : s.G = k + m := by omega
      have hl0 : len0 s.L (k + m) ≤ 24 := hL _
      have hj := hi.2
      by_cases hal : alikeTo s.L (k + m) (k + m) = true
      · by_cases hK : k ≤ (thereTo s.L (k + m)).length
        · obtain ⟨W0, hW0⟩ : ∃ W0, ∀ W, El (fun r => gen k ((firstK s.L (k + m) k).getD r 0)) k k W → W = W0 := by
            by_cases hE : ∃ W, El (fun r => gen k ((firstK s.L (k + m) k).getD r 0)) k k W
            · obtain ⟨W0, h0⟩ := hE
              exact ⟨W0, fun W h => h.unique h0⟩
            · exact ⟨fun _ _ => 0, fun W h => absurd ⟨W, h⟩ hE⟩
          refine ⟨0, len0 s.L (k + m), enc k (fun j q => prodTo (right W0 k) (fun j q => s.M ((firstK s.L (k + m) k).getD j 0) q) k j q) j, fun s' w e1 e2 e3 hs => ?_⟩
          rw [e1, hG]
          refine ⟨fun hp => (repair_any k m j s' w hs (e1.trans hG) h1 h3 hj hp (by rw [e2]; omega)).mono ?_, (refRepair_yes k m j s' w hs (e1.trans hG) h1 h3 hj (by rw [e2]; exact hal) (by rw [e2]; exact hK) (by rw [e2]; omega)).mono ?_⟩
          · rw [e2, e3]
            rintro e w' ⟨hKp, ⟨hx, _⟩ | ⟨_, hx, _⟩ | ⟨_, _, b, W, rfl, hE, hR⟩⟩
            · rw [hal] at hx; cases hx
            · omega
            · have hb : ∀ i j, s.M i j < 256 := fun i j => by rw [← e3]; exact hs.byte i j
              obtain rfl := hW0 W hE
              refine ⟨_, rfl, hKp, Or.inl ⟨rfl, _, b, 0, _, rfl, fun _ _ => rfl, fun p hp' => ?_⟩⟩
              have := hR.cell hp'
              simp only [By] at this
              rw [decM_assoc hb (fun i j => (hE.keeps (fun _ _ => gen_lt _ _ _)).byte _ _)] at this
              rw [Nat.zero_add]
              exact this
          · rw [e2, e3]
            rintro e w' ⟨q, W, rfl, hKp, hE, hq, hjq, hqL, hqM⟩
            obtain rfl := hW0 W hE
            refine ⟨_, rfl, hKp, Or.inl ⟨rfl, _, q.RB j, q.RO j, _, rfl, fun p hp' => hq.to j hjq p (by rw [hqL]; exact hp'), fun p hp' => ?_⟩⟩
            rw [← hqM]
            exact hq.cell j hjq p (by rw [hqL]; exact hp')
        · refine ⟨30, 0, fun _ => 0, fun s' w e1 e2 e3 hs => ?_⟩
          rw [e1, hG]
          refine ⟨fun hp => (repair_any k m j s' w hs (e1.trans hG) h1 h3 hj hp (by rw [e2]; omega)).mono ?_, (refRepair_no k m j s' w hs (e1.trans hG) h1 h3 hj 30 (Or.inr ⟨by rw [e2]; exact hal, by rw [e2]; omega, rfl⟩)).mono ?_⟩
          · rw [e2]
            rintro e w' ⟨hKp, ⟨hx, _⟩ | ⟨_, hx, rfl⟩ | ⟨_, hx, _⟩⟩
            · rw [hal] at hx; cases hx
            · exact ⟨_, rfl, hKp, Or.inr ⟨by omega, rfl⟩⟩
            · exact absurd hx hK
          · rintro e w' ⟨rfl, hKp⟩; exact ⟨_, rfl, hKp, Or.inr ⟨by omega, rfl⟩⟩
      · have hal' : alikeTo s.L (k + m) (k + m) = false := by simpa using hal
        refine ⟨1, 0, fun _ => 0, fun s' w e1 e2 e3 hs => ?_⟩
        rw [e1, hG]
        refine ⟨fun hp => (repair_any k m j s' w hs (e1.trans hG) h1 h3 hj hp (by rw [e2]; omega)).mono ?_, (refRepair_no k m j s' w hs (e1.trans hG) h1 h3 hj 1 (Or.inl ⟨by rw [e2]; exact hal', rfl⟩)).mono ?_⟩
        · rw [e2]
          rintro e w' ⟨hKp, ⟨hx, rfl⟩ | ⟨hx, _⟩ | ⟨hx, _⟩⟩
          · exact ⟨_, rfl, hKp, Or.inr ⟨by omega, rfl⟩⟩
          · exact absurd hx hal
          · exact absurd hx hal
        · rintro e w' ⟨rfl, hKp⟩; exact ⟨_, rfl, hKp, Or.inr ⟨by omega, rfl⟩⟩
    · refine ⟨1, 0, fun _ => 0, fun s' w e1 e2 e3 hs => ?_⟩
      refine ⟨fun _ => (repair_bad K M i s'.g s'.G s'.cap w hw (fun hx => hi hx.2)).mono ?_, ?_⟩
      · rintro e w' ⟨rfl, hK⟩; exact ⟨_, rfl, hK, Or.inr ⟨by omega, rfl⟩⟩
      · obtain ⟨⟨h1, h2, h3⟩, h4⟩ := h
        obtain ⟨k, rfl⟩ : ∃ k : Nat, K = (k : Int) := ⟨K.toNat, by omega⟩
        obtain ⟨m, rfl⟩ : ∃ m : Nat, M = (m : Int) := ⟨M.toNat, by omega⟩
        have hG : s.G = k + m := by omega
        rw [e1, hG]
        refine (refRepair_out k m i s' w hs (e1.trans hG) h1 h3 hi).mono ?_
        rintro e w' ⟨rfl, hK⟩; exact ⟨_, rfl, hK, Or.inr ⟨by omega, rfl⟩⟩
  · refine ⟨1, 0, fun _ => 0, fun s' w e1 e2 e3 hs => ?_⟩
    refine ⟨fun _ => (repair_bad K M i s'.g s'.G s'.cap w hw (fun hx => h (by rw [← e1]; exact hx.1))).mono ?_, (refRepair_bad K M i s'.g s'.G s'.cap w (by rw [e1]; exact h)).mono ?_⟩
    · rintro e w' ⟨rfl, hK⟩; exact ⟨_, rfl, hK, Or.inr ⟨by omega, rfl⟩⟩
    · rintro e w' ⟨rfl, hK⟩; exact ⟨_, rfl, hK, Or.inr ⟨by omega, rfl⟩⟩

theorem rightU (K M : Int) (s : Sh) (hw : 1 ≤ K → wrap64 (255 - K) = 255 - K) (hL : ∀ r, s.L r ≤ 24) : ∃ b : Bool, ∀ (s' : Sh) (w : World), s'.G = s.G → s'.L = s.L → s'.M = s.M → s'.G ≤ s'.cap → Rd w s' →
    (Pows w → Calls Tryd.prog 13 #[.agg #[.int .i64 K, .int .i64 M], .slice s'.g s'.G s'.cap] w fun e w' => e = .returned (.bool b) ∧ Kp (fun _ => False) w w') ∧
    (Calls Tryd.prog 14 #[.agg #[.int .i64 K, .int .i64 M], .slice s'.g s'.G s'.cap] w fun e w' => e = .returned (.bool b) ∧ Kp (fun _ => False) w w') := by
  by_cases h : Vd K M s.G
  · obtain ⟨⟨h1, h2, h3⟩, h4⟩ := h
    obtain ⟨k, rfl⟩ : ∃ k : Nat, K = (k : Int) := ⟨K.toNat, by omega⟩
    obtain ⟨m, rfl⟩ : ∃ m : Nat, M = (m : Int) := ⟨M.toNat, by omega⟩
    have hG : s.G = k + m := by omega
    have hl0 := hL 0
    by_cases hA : alikeTo s.L (k + m) (k + m) = true ∧ (thereTo s.L (k + m)).length = k + m
    · obtain ⟨f1, f2⟩ := fit_of (by omega) hA.2 hA.1
      obtain ⟨b, hb1, hb2⟩ : ∃ b : Bool, (b = true → ∀ i, i < k + m → ∀ p, p < s.L 0 → enc k s.M i p = s.M i p) ∧ (b = false → ¬ ∀ i, i < k + m → ∀ p, p < s.L 0 → enc k s.M i p = s.M i p) := by
        by_cases hx : ∀ i, i < k + m → ∀ p, p < s.L 0 → enc k s.M i p = s.M i p
        · exact ⟨true, fun _ => hx, fun h => by cases h⟩
        · exact ⟨false, fun h => (by cases h), fun _ => hx⟩
      refine ⟨b, fun s' w e1 e2 e3 hc hs => ?_⟩
      rw [e1, hG] at hc ⊢
      refine ⟨fun hp => right_fit k m (s.L 0) s' w hs (e1.trans hG) (fun r hr => by rw [e2]; exact f2 r (by omega)) h1 h3 hp (by omega) (by omega) (by omega) b (fun h i hi => ⟨by rw [e2]; exact (f2 i hi).symm, fun p hp' => by rw [e3]; exact hb1 h i hi p hp'⟩) (fun h hx => hb2 h (fun i hi p hp' => by have := (hx i hi).2 p hp'; rw [e3] at this; exact this)),
        refRight_yes k m (s.L 0) s' w hs (e1.trans hG) h1 h3 (by rw [e2]; exact hA.1) (by rw [e2]; exact hA.2) (fun r hr => by rw [e2]; exact f2 r hr) (by omega) (by omega) (by omega) b (fun h i hi p hp' => by rw [e3]; exact hb1 h i hi p hp') (fun h hx => hb2 h (fun i hi p hp' => by have := hx i hi p hp'; rw [e3] at this; exact this))⟩
    · refine ⟨false, fun s' w e1 e2 e3 hc hs => ?_⟩
      rw [e1, hG] at hc ⊢
      refine ⟨fun hp => ?_, refRight_no k m s' w hs (e1.trans hG) h1 h3 (by rw [e2]; exact hA)⟩
      by_cases hf : 1 ≤ s.L 0 ∧ ∀ r, r < k → s.L r = s.L 0
      · refine right_fit k m (s.L 0) s' w hs (e1.trans hG) (fun r hr => by rw [e2]; exact hf.2 r hr) h1 h3 hp (by omega) (by omega) (by omega) false (fun h => by cases h) (fun _ hx => hA ?_)
        rw [e2] at hx
        have hall : ∀ r, r < k + m → s.L r = s.L 0 := fun r hr => (hx r hr).1.symm
        exact ⟨alike_all (n := s.L 0) (by omega) (by omega) hall, by rw [thereTo_all (fun r hr => by rw [hall r hr]; omega)]; simp⟩
      · exact right_nofit k m s' w hs (e1.trans hG) h1 h3 (by omega) (by rw [e2]; exact hf)
  · exact ⟨false, fun s' w e1 e2 e3 _ hs => ⟨fun _ => right_bad K M s'.g s'.G s'.cap w hw (by rw [e1]; exact h), refRight_bad K M s'.g s'.G s'.cap w (by rw [e1]; exact h)⟩⟩
end Go.Proofs.YtbmhfclknilcoaaDoor
