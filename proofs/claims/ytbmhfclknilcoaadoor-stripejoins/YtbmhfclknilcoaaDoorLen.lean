/- The walk of the law ReedEncodes: all shards of the data, or the error, of anything; the data stay. -/
import Derived.Test.YtbmhfclknilcoaaDoorR8
import Derived.Test.YtbmhfclknilcoaaDoorM18
import Derived.RegionTactic
import Derived.BigRegion
namespace Go.Proofs.YtbmhfclknilcoaaDoor
open Go.RowKit Go.Deep

/-- an answer: a matrix, or nothing and an error -/
def Ans (w : World) (v : Value) (c : Int) (n m : Nat) (M : Nat → Nat → Nat) : Prop := (c = 0 ∧ Mx w v n m M) ∨ (c ≠ 0 ∧ v = .slice none 0 0)
theorem Ans.keep {w w' : World} {v : Value} {c : Int} {n m : Nat} {M : Nat → Nat → Nat} (h : Ans w v c n m M) (k : Kp (fun _ => False) w w') : Ans w' v c n m M := by
  rcases h with ⟨h1, h2⟩ | h
  · exact Or.inl ⟨h1, h2.keep k⟩
  · exact Or.inr h
theorem Ans.same {w : World} {v u : Value} {c : Int} {n m : Nat} {M : Nat → Nat → Nat} (h : Ans w v c n m M) (g : Ans w u c n m M) (hn : n ≤ 1000000) : Calls Tryd.prog 11 #[v, u] w fun e w' => e = .returned (.bool true) ∧ w' = w := by
  rcases h with ⟨h1, h2⟩ | ⟨h1, rfl⟩
  · rcases g with ⟨_, g2⟩ | ⟨g1, _⟩
    · exact sameX v u n m M M w h2 g2 (fun _ _ _ _ => rfl) hn
    · exact absurd h1 g1
  · rcases g with ⟨g1, _⟩ | ⟨_, rfl⟩
    · exact absurd g1 h1
    · exact sameNil w
/-- rows of the program's own that may be written over, or nothing -/
def Wr (w w' : World) (v : Value) : Prop := v = .slice none 0 0 ∨ ∃ t B R C cap, v = .slice (some ⟨t, 0, none⟩) R cap ∧ Wri w' t B R C ∧ R ≤ 255 ∧ C ≤ 255 ∧ ∀ i, i < R → w.heap.size ≤ B i
theorem Wr.spoil {w w' : World} {v : Value} (h : Wr w w' v) : Calls Tryd.prog 15 #[v] w' fun e w'' => e = .returned (.tuple #[]) ∧ Kp (fun b => w.heap.size ≤ b) w' w'' := by
  rcases h with rfl | ⟨t, B, R, C, cap, rfl, hW, hR, hC, hB⟩
  · refine (spoil_nil w').mono ?_
    rintro e w'' ⟨rfl, rfl⟩
    exact ⟨rfl, Kp.refl _ _⟩
  · refine (spoil_any t cap B R C w' hW (by omega) (by omega)).mono ?_
    rintro e w'' ⟨rfl, k⟩
    exact ⟨rfl, k.mono (fun b _ ⟨i, hi, e⟩ => by rw [e]; exact hB i hi)⟩
theorem Wr.keep {w w' w'' : World} {v : Value} (h : Wr w w' v) (k : Kp (fun _ => False) w' w'') : Wr w w'' v := by
  rcases h with rfl | ⟨t, B, R, C, cap, rfl, hW, hR, hC, hB⟩
  · exact Or.inl rfl
  · exact Or.inr ⟨t, B, R, C, cap, rfl, ⟨k.row hW.top id, fun i hi => by obtain ⟨f, hf, hr⟩ := hW.row i hi; exact ⟨f, hf, k.row hr id⟩, hW.inj, hW.ne⟩, hR, hC, hB⟩


theorem encodeU (K M : Int) (s : Sh) (hw : 1 ≤ K → wrap64 (255 - K) = 255 - K) (hG : s.G ≤ 40) (hL : ∀ r, s.L r ≤ 24) : ∃ (c : Int) (n m : Nat) (D : Nat → Nat → Nat), n ≤ 1000000 ∧ ∀ (s' : Sh) (w : World), s'.G = s.G → s'.L = s.L → s'.M = s.M → Rd w s' →
    (Pows w → Calls Tryd.prog 30 #[.agg #[.int .i64 K, .int .i64 M], .slice s'.g s'.G s'.cap] w fun e w' => ∃ v, e = .returned (.tuple #[v, .int .i64 c]) ∧ Kp (fun _ => False) w w' ∧ Ans w' v c n m D ∧ Wr w w' v) ∧
    (Calls Tryd.prog 28 #[.agg #[.int .i64 K, .int .i64 M], .slice s'.g s'.G s'.cap] w fun e w' => ∃ v, e = .returned (.tuple #[v, .int .i64 c]) ∧ Kp (fun _ => False) w w' ∧ Ans w' v c n m D) := by
  by_cases h : Fit K M s
  · obtain ⟨⟨h1, h2, h3⟩, h4, h5, h6⟩ := h
    obtain ⟨m, rfl⟩ : ∃ m : Nat, M = (m : Int) := ⟨M.toNat, by omega⟩
    subst h4
    have hL0 := hL 0
    refine ⟨0, s.G + m, s.L 0, enc s.G s.M, by omega, fun s' w e1 e2 e3 hs => ?_⟩
    rw [e1]
    refine ⟨fun hp => (encode_yes s.G m (s.L 0) s' w hs e1 (fun r hr => by rw [e2]; exact h6 r hr) h1 h3 hp (by omega) (by omega)).mono ?_, (refEncode_yes s.G m (s.L 0) s' w hs e1 (fun r hr => by rw [e2]; exact h6 r hr) h1 h3 (by omega) (by omega)).mono ?_⟩
    · rw [e3]
      rintro e w' ⟨t, B, rfl, hK, _, hB, hM⟩
      exact ⟨_, rfl, hK, Or.inl ⟨rfl, hM.mx⟩, Or.inr ⟨t, B, s.G + m, s.L 0, _, rfl, hM.wri, by omega, by omega, hB⟩⟩
    · rw [e3]
      rintro e w' ⟨v, rfl, hK, hM⟩
      exact ⟨v, rfl, hK, Or.inl ⟨rfl, hM⟩⟩
  · refine ⟨1, 0, 0, fun _ _ => 0, by omega, fun s' w e1 e2 e3 hs => ?_⟩
    have h' : ¬ Fit K M s' := by unfold Fit; rw [e1, e2]; exact h
    refine ⟨fun _ => (encode_bad K M s' w hs hw h').mono ?_, (refEncode_no K M s' w hs (by omega) h').mono ?_⟩
    · rintro e w' ⟨rfl, hK⟩; exact ⟨_, rfl, hK, Or.inr ⟨by omega, rfl⟩, Or.inl rfl⟩
    · rintro e w' ⟨rfl, hK⟩; exact ⟨_, rfl, hK, Or.inr ⟨by omega, rfl⟩⟩
theorem canU (K M : Int) (hw : 1 ≤ K → wrap64 (255 - K) = 255 - K) : ∃ b : Bool, ∀ w, (Calls Tryd.prog 16 #[.agg #[.int .i64 K, .int .i64 M]] w fun e w' => e = .returned (.bool b) ∧ Kp (fun _ => False) w w') ∧
    (Calls Tryd.prog 42 #[.agg #[.int .i64 K, .int .i64 M]] w fun e w' => e = .returned (.bool b) ∧ Kp (fun _ => False) w w') := by
  by_cases h : 1 ≤ K ∧ 0 ≤ M ∧ M ≤ 255 - K
  · exact ⟨true, fun w => ⟨can_yes K M w h.1 h.2.1 h.2.2, refCan_yes K M w h.1 h.2.1 h.2.2⟩⟩
  · exact ⟨false, fun w => ⟨can_no K M w hw h, refCan_no K M w h⟩⟩

end Go.Proofs.YtbmhfclknilcoaaDoor
