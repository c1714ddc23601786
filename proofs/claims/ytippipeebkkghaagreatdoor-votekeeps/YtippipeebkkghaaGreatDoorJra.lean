/- A shelf's cursor: next, number, of what is there. -/
import Derived.Test.YtippipeebkkghaaGreatDoorIm
namespace Go.Proofs.YtippipeebkkghaaGreatDoor
set_option linter.unusedVariables false
set_option linter.unusedSimpArgs false
open Go.RowKit Go.Deep Go.Maps

/-- a cursor in memory, at block r, with bytes xs left -/
def Cq (Z : Nat → Prop) (w : World) (r : Nat) (xs : List Nat) : Prop := ∃ q c, Lv w r [.slice q xs.length c] ∧ xs.length ≤ c ∧ Rb w q xs.length xs ∧ ∀ a, q = some a → 0 < xs.length → Z a.block ∧ a.block ≠ r
theorem Cq.keep {S Z : Nat → Prop} {w w' : World} {r : Nat} {xs : List Nat} (h : Cq Z w r xs) (k : Kp S w w') (hr : ¬ S r) (hS : ∀ b, Z b → ¬ S b) : Cq Z w' r xs := by
  obtain ⟨q, c, h1, h2, h3, h4⟩ := h
  refine ⟨q, c, h1.keep k hr, h2, ?_, h4⟩
  by_cases h0 : 0 < xs.length
  · exact h3.keep k (fun a ha _ => hS _ (h4 a ha h0).1)
  · have : xs = [] := List.eq_nil_of_length_eq_zero (by omega)
    subst this
    exact ⟨rfl, h3.byte, fun j hj => absurd hj (Nat.not_lt_zero _)⟩
theorem Cq.keep0 {Z : Nat → Prop} {w w' : World} {r : Nat} {xs : List Nat} (h : Cq Z w r xs) (k : Kp (fun _ => False) w w') : Cq Z w' r xs := h.keep k id (fun _ _ e => e)

theorem slice_rest (p : Option Addr) (n c : Nat) (hc : n ≤ c) (h1 : 1 ≤ n) (w : World) :
    (Instr.sliceAt 75 (.slice p n c) (some (.int .i64 1)) none none).run Tryz.prog w = .ok (.slice (if c = 1 then p else p.map (·.add (1 * 1))) (n - 1) (c - 1)) w := by
  have h : (Instr.slice 75 (.slice p n c) (some (.int .i64 1)) none none).run Tryz.prog w = .ok (.slice (if c = 1 then p else p.map (·.add (1 * 1))) (n - 1) (c - 1)) w := by
    obtain ⟨i, hi, hz⟩ := Option.map_eq_some_iff.1 info5
    simp only [Prod.mk.injEq] at hz
    obtain ⟨hz, hs, hb⟩ := hz
    have h2 : (n : Int) ≤ (c : Int) := by omega
    have h3 : (1 : Int) ≤ (n : Int) := by omega
    have h4 : ¬ n < 1 := by omega
    simp [Instr.slice, Instr.sliceBounds, Instr.sliceBound, asIntOf, run_underlying Tryz.underlying75, sizeOf, typeInfo, hi, hs, h2, h3, hc, h1, h4]
  simp [Instr.sliceAt, run_underlying Tryz.underlying75, h]

set_option maxRecDepth 100000 in
set_option maxHeartbeats 1600000 in
theorem cnext_ok {Z : Nat → Prop} {w : World} {r x : Nat} {t : List Nat} (h : Cq Z w r (x :: t)) :
    Calls Tryz.prog 96 #[.pointer (some ⟨r, 0, none⟩)] w fun e w' => e = .returned (.int .u8 (x : Int)) ∧ Kp (fun b => b = r) w w' ∧ Cq Z w' r t := by
  obtain ⟨q, c, h1, h2, h3, h4⟩ := h
  obtain ⟨b, o, rfl, hb⟩ := h3.pt (show 0 < (x :: t).length by simp)
  have c0 : w.cell? ⟨r, 0, none⟩ = some (.slice (some ⟨b, o, none⟩) (x :: t).length c) := h1.cell (j := 0) rfl
  have f0 : w.frozen? ⟨r, 0, none⟩ = false := h1.fz (j := 0) (by simp)
  have b0 : w.cell? ⟨b, o, none⟩ = some (.int .u8 (x : Int)) := hb 0 (by simp)
  obtain ⟨n, hn⟩ : ∃ n, n = (x :: t).length := ⟨_, rfl⟩
  have hn1 : n = t.length + 1 := by rw [hn]; rfl
  rw [← hn] at c0 h2
  obtain ⟨q2, hq2⟩ : ∃ q2, q2 = (if c = 1 then (some ⟨b, o, none⟩ : Option Addr) else (some ⟨b, o, none⟩ : Option Addr).map (·.add (1 * 1))) := ⟨_, rfl⟩
  have hsl : ∀ z, (Instr.sliceAt 75 (.slice (some ⟨b, o, none⟩) n c) (some (.int .i64 1)) none none).run Tryz.prog z = .ok (.slice q2 (n - 1) (c - 1)) z := fun z => by rw [hq2]; exact slice_rest _ n c h2 (by omega) z
  have HF : Hid (Kp (fun b => b = r) w (w.setCell ⟨r, 0, none⟩ (.slice q2 (n - 1) (c - 1))) ∧ Cq Z (w.setCell ⟨r, 0, none⟩ (.slice q2 (n - 1) (c - 1))) r t) := by
    have k1 : Kp (fun b => b = r) w (w.setCell ⟨r, 0, none⟩ (.slice q2 (n - 1) (c - 1))) := by show Kp _ _ _; exact (Kp.refl (fun b => b = r) w).setCell (fun _ => rfl) _
    have hp := h3.part (by rw [← hn]; exact h2) (l := 1) (r := (x :: t).length) (by simp) (Nat.le_refl _)
    rw [List.take_length, ← hq2] at hp
    have hbr : b ≠ r := (h4 ⟨b, o, none⟩ rfl (by simp)).2
    have hbz : Z b := (h4 ⟨b, o, none⟩ rfl (by simp)).1
    have hqb : ∀ a, q2 = some a → a.block = b := fun a ha => by
      rw [hq2] at ha
      by_cases e : c = 1
      · rw [if_pos e] at ha
        cases ha
        rfl
      · rw [if_neg e] at ha
        have e2 := Option.some.inj ha
        rw [← e2]
        rfl
    have hl : n - 1 = t.length := by omega
    refine ⟨k1, q2, c - 1, ?_, by omega, ?_, fun a ha _ => by rw [hqb a ha]; exact ⟨hbz, hbr⟩⟩
    · rw [← hl]; exact h1.set1 0 _ (by simp)
    · rw [← hl]
      have hp2 : Rb w q2 (n - 1) t := by rw [hn]; exact hp
      exact hp2.keep k1 (fun a ha _ e => hbr (by rw [← hqb a ha]; exact e))
  have hne : ¬ (n : Int) = 0 := by omega
  have hpos : (0 : Int) < (n : Int) := by omega
  clear h1 h2 h3 h4 hb hn hn1 hq2
  go_enter Tryz.func96, Tryz.ntmps96
  go_wp2
  go_ret
  exact ⟨rfl, HF.out⟩

set_option maxRecDepth 100000 in
set_option maxHeartbeats 1600000 in
theorem cnumber_ok {Z : Nat → Prop} {w : World} {r n : Nat} {t : List Nat} (hn : n ≤ 1152921504606846976) (h : Cq Z w r (numB n ++ t)) :
    Calls Tryz.prog 97 #[.pointer (some ⟨r, 0, none⟩)] w fun e w' => e = .returned (.int .i64 (n : Int)) ∧ Kp (fun b => b = r) w w' ∧ Cq Z w' r t := by
  have h8 : numW n ≤ 8 := numW_le (show n < 256 ^ 8 by have : (256 : Nat) ^ 8 = 18446744073709551616 := rfl; omega)
  have HN : Hid (n ≤ 1152921504606846976 ∧ n / 256 ^ numW n = 0) := ⟨hn, Nat.div_eq_of_lt (numW_lt n)⟩
  obtain ⟨K, hK⟩ : ∃ K, K = numW n := ⟨_, rfl⟩
  have HNx : Hid (Calls _ _ _ w _) := cnext_ok (x := numW n) (t := digs (numW n) n ++ t) h
  rw [← hK] at HNx HN h8
  have HK8 : Hid (K ≤ 8) := h8
  clear hK h hn h8
  go_enter Tryz.func97, Tryz.ntmps97
  go_wp2_with fail
  refine HNx.out.mono ?_
  rintro e9 w1 ⟨rfl, k1, q1⟩
  have HQ1 : Hid (Kp (fun b => b = r) w w1 ∧ Cq Z w1 r (digs K n ++ t)) := ⟨k1, q1⟩
  clear k1 q1 HNx
  go_wp2_with fail
  go_loopg [3, 6] K (fun gk av iv wr => ∃ (j a : Nat), j ≤ K ∧ gk = K - j ∧ av = .int .u64 (a : Int) ∧ iv = .int .u8 (j : Int) ∧ Hid (a = n / 256 ^ (K - j) ∧ Kp (fun b => b = r) w wr ∧ Cq Z wr r (digs (K - j) n ++ t)))
  case atStart => exact ⟨0, 0, Nat.zero_le _, rfl, rfl, rfl, HN.out.2.symm, HQ1.out.1, HQ1.out.2⟩
  case round =>
    obtain ⟨j, a, hj, rfl, rfl, rfl, HK⟩ := hrel
    by_cases hlt : j < K
    · have hlt2 : (j : Int) < (K : Int) := by omega
      obtain ⟨m, hm⟩ : ∃ m, K - j = m + 1 := ⟨K - j - 1, by omega⟩
      have hq := HK.out.2.2
      rw [hm] at hq
      obtain ⟨x, hx⟩ : ∃ x, x = (n / 256 ^ m) % 256 := ⟨_, rfl⟩
      have HNx : Hid (Calls _ _ _ wr _) := cnext_ok (x := x) (t := digs m n ++ t) (by rw [hx]; exact hq)
      have ha : a < 256 ^ 7 := by
        have h1 := HK.out.1
        rw [hm] at h1
        rw [h1]
        have h2 := HN.out.1
        refine Nat.div_lt_of_lt_mul ?_
        have h3 : 256 ^ 1 ≤ 256 ^ (m + 1) := Nat.pow_le_pow_right (by decide) (by omega)
        have h4 : 256 ^ 1 * 256 ^ 7 ≤ 256 ^ (m + 1) * 256 ^ 7 := Nat.mul_le_mul_right _ h3
        have h5 : (256 : Nat) ^ 1 * 256 ^ 7 = 18446744073709551616 := rfl
        omega
      have hx8 : x < 256 := by rw [hx]; exact Nat.mod_lt _ (by decide)
      have hor := u64_or_shiftW a x ha hx8
      have hj1 : IntKind.u8.wrap ((j : Int) + 1) = ((j + 1 : Nat) : Int) := by
        have := HK8.out
        simp [IntKind.wrap, IntKind.bits, IntKind.signed]
        omega
      have hxu : IntKind.u64.wrap (x : Int) = (x : Int) := by
        simp [IntKind.wrap, IntKind.bits, IntKind.signed]
        omega
      have HNew : Hid (a * 256 + x = n / 256 ^ (K - (j + 1)) ∧ K - (j + 1) = m) := by
        have h1 := HK.out.1
        rw [hm, Nat.pow_succ, ← Nat.div_div_eq_div_mul] at h1
        have hm2 : K - (j + 1) = m := by omega
        refine ⟨?_, hm2⟩
        rw [hm2, h1, hx]
        omega
      clear hq hx ha hx8 hlt hm
      go_wp2_with fail
      refine HNx.out.mono ?_
      rintro e9 w2 ⟨rfl, k2, q2⟩
      have HF : Hid (Kp (fun b => b = r) w w2 ∧ Cq Z w2 r (digs m n ++ t)) := ⟨HK.out.2.1.trans k2 (fun _ _ e => e), q2⟩
      clear k2 q2 HNx
      go_wp2
      go_roundg (K - (j + 1))
      case rel => exact ⟨j + 1, a * 256 + x, by omega, rfl, by first | rw [hor] | simp, by first | rw [hj1] | simp, HNew.out.1, HF.out.1, by rw [HNew.out.2]; exact HF.out.2⟩
      case measure => omega
    · have hjK : j = K := by omega
      subst hjK
      have hlt2 : ¬ (j : Int) < (j : Int) := by omega
      have hf := HK.out
      rw [Nat.sub_self, Nat.pow_zero, Nat.div_one] at hf
      have ha : a = n := hf.1
      subst ha
      have hw : wrap64 (a : Int) = (a : Int) := by have := HN.out.1; unfold wrap64; omega
      have HF : Hid (Kp (fun b => b = r) w wr ∧ Cq Z wr r t) := ⟨hf.2.1, hf.2.2⟩
      clear hf HK
      go_wp2
      go_ret
      exact ⟨by first | rfl | rw [hw], HF.out⟩
end Go.Proofs.YtippipeebkkghaaGreatDoor
