/- The errors of both sides on whatever texts; the verifier's Spoil. -/
import Derived.Test.YtbmhfclknilcoaaDoorM17
namespace Go.Proofs.YtbmhfclknilcoaaDoor
open Go.RowKit Go.Deep

set_option maxRecDepth 100000 in
set_option maxHeartbeats 1600000 in
theorem mul_no (s t : Sh) (w : World) (hs : Rd w s) (ht : Rd w t) (h : ¬ (isM s = true ∧ isM t = true ∧ s.L 0 = t.G)) :
    Calls Tryd.prog 40 #[.slice s.g s.G s.cap, .slice t.g t.G t.cap] w fun e w' => e = .returned (.tuple #[.slice none 0 0, .int .i64 1]) ∧ w' = w := by
  have HS : Hid (Calls _ _ _ w _) := isMatrix_any s w hs
  have HT : Hid (Calls _ _ _ w _) := isMatrix_any t w ht
  by_cases ms : isM s = true
  · rw [ms] at HS
    by_cases mt : isM t = true
    · rw [mt] at HT
      obtain ⟨a1, _⟩ := isM_true ms
      have hne : s.L 0 ≠ t.G := fun e => h ⟨ms, mt, e⟩
      have c1 := hs.hd 0 (by omega)
      simp only [Nat.add_zero] at c1
      have hq : ((s.L 0 : Int) != (t.G : Int)) = true := bne_iff_ne.2 (by omega)
      rw [hs.at0 (by omega)] at HS ⊢
      clear ms mt h hne hs ht
      go_enter Tryd.func40, Tryd.ntmps40
      go_wp2_with fail
      refine HS.out.mono ?_
      rintro e w' ⟨rfl, hw⟩
      obtain rfl := hw.symm
      go_wp2_with fail
      refine HT.out.mono ?_
      rintro e w' ⟨rfl, hw⟩
      obtain rfl := hw.symm
      go_wp2
      go_ret2
      exact ⟨rfl, rfl⟩
    · have mt' : isM t = false := by simpa using mt
      rw [mt'] at HT
      clear ms mt mt' h hs ht
      go_enter Tryd.func40, Tryd.ntmps40
      go_wp2_with fail
      refine HS.out.mono ?_
      rintro e w' ⟨rfl, hw⟩
      obtain rfl := hw.symm
      go_wp2_with fail
      refine HT.out.mono ?_
      rintro e w' ⟨rfl, hw⟩
      obtain rfl := hw.symm
      go_wp2
      go_ret2
      exact ⟨rfl, rfl⟩
  · have ms' : isM s = false := by simpa using ms
    rw [ms'] at HS
    clear ms ms' h hs ht HT
    go_enter Tryd.func40, Tryd.ntmps40
    go_wp2_with fail
    refine HS.out.mono ?_
    rintro e w' ⟨rfl, hw⟩
    obtain rfl := hw.symm
    go_wp2
    go_ret2
    exact ⟨rfl, rfl⟩

set_option maxRecDepth 100000 in
set_option maxHeartbeats 1600000 in
theorem refMul_no (s t : Sh) (w : World) (hs : Rd w s) (ht : Rd w t) (h : ¬ (isM s = true ∧ isM t = true ∧ s.L 0 = t.G)) :
    Calls Tryd.prog 27 #[.slice s.g s.G s.cap, .slice t.g t.G t.cap] w fun e w' => e = .returned (.tuple #[.slice none 0 0, .int .i64 1]) ∧ w' = w := by
  have HS : Hid (Calls _ _ _ w _) := refIs_any s w hs
  have HT : Hid (Calls _ _ _ w _) := refIs_any t w ht
  by_cases ms : isM s = true
  · rw [ms] at HS
    by_cases mt : isM t = true
    · rw [mt] at HT
      obtain ⟨a1, _⟩ := isM_true ms
      have hne : s.L 0 ≠ t.G := fun e => h ⟨ms, mt, e⟩
      have c1 := hs.hd 0 (by omega)
      simp only [Nat.add_zero] at c1
      have hq : ((s.L 0 : Int) != (t.G : Int)) = true := bne_iff_ne.2 (by omega)
      rw [hs.at0 (by omega)] at HS ⊢
      clear ms mt h hne hs ht
      go_enter Tryd.func27, Tryd.ntmps27
      go_wp2_with fail
      refine HS.out.mono ?_
      rintro e w' ⟨rfl, hw⟩
      obtain rfl := hw.symm
      go_wp2_with fail
      refine HT.out.mono ?_
      rintro e w' ⟨rfl, hw⟩
      obtain rfl := hw.symm
      go_wp2
      go_ret2
      exact ⟨rfl, rfl⟩
    · have mt' : isM t = false := by simpa using mt
      rw [mt'] at HT
      clear ms mt mt' h hs ht
      go_enter Tryd.func27, Tryd.ntmps27
      go_wp2_with fail
      refine HS.out.mono ?_
      rintro e w' ⟨rfl, hw⟩
      obtain rfl := hw.symm
      go_wp2_with fail
      refine HT.out.mono ?_
      rintro e w' ⟨rfl, hw⟩
      obtain rfl := hw.symm
      go_wp2
      go_ret2
      exact ⟨rfl, rfl⟩
  · have ms' : isM s = false := by simpa using ms
    rw [ms'] at HS
    clear ms ms' h hs ht HT
    go_enter Tryd.func27, Tryd.ntmps27
    go_wp2_with fail
    refine HS.out.mono ?_
    rintro e w' ⟨rfl, hw⟩
    obtain rfl := hw.symm
    go_wp2
    go_ret2
    exact ⟨rfl, rfl⟩

set_option maxRecDepth 100000 in
set_option maxHeartbeats 1600000 in
theorem invert_no (s : Sh) (w : World) (hs : Rd w s) (h : ¬ (isM s = true ∧ s.G = s.L 0)) :
    Calls Tryd.prog 39 #[.slice s.g s.G s.cap] w fun e w' => e = .returned (.tuple #[.slice none 0 0, .int .i64 1]) ∧ w' = w := by
  have HS : Hid (Calls _ _ _ w _) := isMatrix_any s w hs
  by_cases ms : isM s = true
  · rw [ms] at HS
    obtain ⟨a1, _⟩ := isM_true ms
    have hne : s.G ≠ s.L 0 := fun e => h ⟨ms, e⟩
    have c1 := hs.hd 0 (by omega)
    simp only [Nat.add_zero] at c1
    have hq : ((s.G : Int) != (s.L 0 : Int)) = true := bne_iff_ne.2 (by omega)
    rw [hs.at0 (by omega)] at HS ⊢
    clear ms h hne hs
    go_enter Tryd.func39, Tryd.ntmps39
    go_wp2_with fail
    refine HS.out.mono ?_
    rintro e w' ⟨rfl, hw⟩
    obtain rfl := hw.symm
    go_wp2
    go_ret2
    exact ⟨rfl, rfl⟩
  · have ms' : isM s = false := by simpa using ms
    rw [ms'] at HS
    clear ms ms' h hs
    go_enter Tryd.func39, Tryd.ntmps39
    go_wp2_with fail
    refine HS.out.mono ?_
    rintro e w' ⟨rfl, hw⟩
    obtain rfl := hw.symm
    go_wp2
    go_ret2
    exact ⟨rfl, rfl⟩

set_option maxRecDepth 100000 in
set_option maxHeartbeats 1600000 in
theorem refInvert_no (s : Sh) (w : World) (hs : Rd w s) (h : ¬ (isM s = true ∧ s.G = s.L 0)) :
    Calls Tryd.prog 26 #[.slice s.g s.G s.cap] w fun e w' => e = .returned (.tuple #[.slice none 0 0, .int .i64 1]) ∧ w' = w := by
  have HS : Hid (Calls _ _ _ w _) := refIs_any s w hs
  by_cases ms : isM s = true
  · rw [ms] at HS
    obtain ⟨a1, _⟩ := isM_true ms
    have hne : s.G ≠ s.L 0 := fun e => h ⟨ms, e⟩
    have c1 := hs.hd 0 (by omega)
    simp only [Nat.add_zero] at c1
    have hq : ((s.G : Int) != (s.L 0 : Int)) = true := bne_iff_ne.2 (by omega)
    rw [hs.at0 (by omega)] at HS ⊢
    clear ms h hne hs
    go_enter Tryd.func26, Tryd.ntmps26
    go_wp2_with fail
    refine HS.out.mono ?_
    rintro e w' ⟨rfl, hw⟩
    obtain rfl := hw.symm
    go_wp2
    go_ret2
    exact ⟨rfl, rfl⟩
  · have ms' : isM s = false := by simpa using ms
    rw [ms'] at HS
    clear ms ms' h hs
    go_enter Tryd.func26, Tryd.ntmps26
    go_wp2_with fail
    refine HS.out.mono ?_
    rintro e w' ⟨rfl, hw⟩
    obtain rfl := hw.symm
    go_wp2
    go_ret2
    exact ⟨rfl, rfl⟩

/-- rows that are there, their bytes whatever -/
structure Wri (w : World) (t : Nat) (B : Nat → Nat) (R C : Nat) : Prop where
  top : w.rowIs t 30 R (fun i => .slice (some ⟨B i, 0, none⟩) C C)
  row : ∀ i, i < R → ∃ f, (∀ j, f j < 256) ∧ w.rowIs (B i) 5 C (By f)
  inj : ∀ i j, i < R → j < R → B i = B j → i = j
  ne : ∀ i, i < R → B i ≠ t
theorem Mat.wri {w : World} {t : Nat} {B : Nat → Nat} {R C : Nat} {M : Nat → Nat → Nat} (h : Mat w t B R C M) : Wri w t B R C := ⟨h.top, fun i hi => ⟨M i, h.byte i, h.row i hi⟩, h.inj, h.ne⟩
theorem Wri.upd {w w' : World} {t : Nat} {B : Nat → Nat} {R C i : Nat} {f : Nat → Nat} (h : Wri w t B R C) (hi : i < R) (k : Kp (fun b => b = B i) w w') (hf : ∀ j, f j < 256) (hr : w'.rowIs (B i) 5 C (By f)) : Wri w' t B R C := by
  refine ⟨k.row h.top (fun e => h.ne i hi e.symm), fun r hr' => ?_, h.inj, h.ne⟩
  by_cases e : r = i
  · subst e; exact ⟨f, hf, hr⟩
  · obtain ⟨g, hg, hg2⟩ := h.row r hr'
    exact ⟨g, hg, k.row hg2 (fun e' => e (h.inj r i hr' hi e'))⟩

set_option maxRecDepth 100000 in
set_option maxHeartbeats 1600000 in
theorem spoil_any (t cap : Nat) (B : Nat → Nat) (R C : Nat) (w : World) (h : Wri w t B R C) (hR : (R : Int) ≤ 1000) (hC : (C : Int) ≤ 1000000) :
    Calls Tryd.prog 15 #[.slice (some ⟨t, 0, none⟩) R cap] w fun e w' => e = .returned (.tuple #[]) ∧ Kp (fun b => ∃ i, i < R ∧ b = B i) w w' := by
  go_enter Tryd.func15, Tryd.ntmps15
  go_wp2
  go_loopg [7] R (fun gk i wr => ∃ r : Nat, r ≤ R ∧ gk = R - r ∧ i = .int .i64 r ∧ Kp (fun b => ∃ i, i < R ∧ b = B i) w wr ∧ Wri wr t B R C)
  case atStart => exact ⟨0, Nat.zero_le _, rfl, rfl, Kp.refl _ _, h⟩
  case round =>
    obtain ⟨r, hr, rfl, rfl, hK, hW⟩ := hrel
    obtain ⟨wr0, rfl⟩ : ∃ x, x = wr := ⟨_, rfl⟩
    by_cases hlt : (r : Int) < (R : Int)
    · have e1 := hW.top.cell (i := r) (by omega)
      obtain ⟨f0, hf0, hr0⟩ := hW.row r (by omega)
      go_wp2
      go_loopg [13] C (fun gk i wq => ∃ (k : Nat) (f : Nat → Nat), k ≤ C ∧ gk = C - k ∧ i = .int .i64 k ∧ Kp (fun b => b = B r) wr0 wq ∧ Hid (∀ j, f j < 256) ∧ wq.rowIs (B r) 5 C (By f))
      case atStart => exact ⟨0, f0, Nat.zero_le _, rfl, rfl, Kp.refl _ _, hf0, hr0⟩
      case round =>
        obtain ⟨k, f, hk, rfl, rfl, hKq, hf, hRq⟩ := hrel
        clear hr0
        by_cases hlk : (k : Int) < (C : Int)
        · have f1 := hRq.cell (i := k) (by omega)
          have f2 := hRq.frozen k
          simp only [By] at f1
          have l1 := hf.out k
          have hx : bits .xor .u8 (f k : Int) 255 = ((f k ^^^ 255 : Nat) : Int) := u8_xor_cast (f k) 255 (by omega) (by omega)
          have hfl := xor8 l1 (show 255 < 256 by omega)
          have HF2 : Hid (∀ j, (fun j => if j = k then f k ^^^ 255 else f j) j < 256) := fun j => by
            dsimp only; split
            · exact hfl
            · exact hf.out j
          clear hfl
          go_wp2
          go_roundg (C - (k + 1))
          case rel => exact ⟨k + 1, _, by omega, rfl, by go_num, hKq.setCell (a := ⟨B r, k, none⟩) (fun _ => rfl) _, HF2, (hRq.set k _).congr (fun j _ => by
            simp only [By]
            split <;> rfl)⟩
          case measure => omega
        · have HW2 : Hid (Wri wr t B R C) := hW.upd (by omega) hKq hf.out hRq
          have HK2 : Hid (Kp (fun b => ∃ i, i < R ∧ b = B i) w wr) := hK.trans hKq (fun b _ e => ⟨r, by omega, e⟩)
          clear hRq hKq
          go_wp2
          go_roundg (R - (r + 1))
          case rel => exact ⟨r + 1, by omega, rfl, by go_num, HK2.out, HW2.out⟩
          case measure => omega
    · go_wp2
      go_end0
      exact ⟨rfl, hK⟩

set_option maxRecDepth 100000 in
set_option maxHeartbeats 800000 in
theorem spoil_nil (w : World) : Calls Tryd.prog 15 #[.slice none 0 0] w fun e w' => e = .returned (.tuple #[]) ∧ w' = w := by
  go_enter Tryd.func15, Tryd.ntmps15
  go_wp2
  go_loopg [7] 0 (fun gk i wr => gk = 0 ∧ i = .int .i64 0 ∧ wr = w)
  case atStart => exact ⟨rfl, rfl, rfl⟩
  case round =>
    obtain ⟨rfl, rfl, rfl⟩ := hrel
    go_wp2
    go_end0
    exact ⟨rfl, rfl⟩
end Go.Proofs.YtbmhfclknilcoaaDoor
