/- Texts of this proof, joined: Jra, Jrb. -/
import Derived.Test.YtmooddbhcccicaaGreatDoorMgBK
import Derived.Test.YtmooddbhcccicaaGreatDoorMgAL
/- A shelf's cursor: next, number, of what is there. -/
namespace Go.Proofs.YtmooddbhcccicaaGreatDoor
set_option linter.unusedVariables false
set_option linter.unusedSimpArgs false
open Go.RowKit Go.Deep Go.Maps

/-- a cursor in memory, at block r, with bytes xs left -/
def Cq (Z : Nat → Prop) (w : World) (r : Nat) (xs : List Nat) : Prop := ∃ q c, Lv w r [.slice q xs.length c] ∧ xs.length ≤ c ∧ Rb w q xs.length xs ∧ ∀ a, q = some a → 0 < xs.length → Z a.block ∧ a.block ≠ r
theorem Cq.keep {S Z : Nat → Prop} {w w' : World} {r : Nat} {xs : List Nat} (h : Cq Z w r xs) (k : Kp S w w') (hr : ¬ S r) (hS : ∀ b, Z b → ¬ S b) : Cq Z w' r xs := by
  obtain ⟨q, c, h1, h2, h3, h4⟩ := h
  refine ⟨q, c, h1.keep k hr, h2, ?_, h4⟩
  by_cases h0 : 0 < xs.length
  · exact h3.keep k (fun a ha _ => hS _ (h4 a ha h0).1)
  · have : xs = [] := List.eq_nil_of_length_eq_zero (by omega)
    subst this
    exact ⟨rfl, h3.byte, fun j hj => absurd hj (Nat.not_lt_zero _)⟩
theorem Cq.keep0 {Z : Nat → Prop} {w w' : World} {r : Nat} {xs : List Nat} (h : Cq Z w r xs) (k : Kp (fun _ => False) w w') : Cq Z w' r xs := h.keep k id (fun _ _ e => e)

theorem slice_rest (p : Option Addr) (n c : Nat) (hc : n ≤ c) (h1 : 1 ≤ n) (w : World) :
    (Instr.sliceAt 34 (.slice p n c) (some (.int .i64 1)) none none).run Tryz.prog w = .ok (.slice (if c = 1 then p else p.map (·.add (1 * 1))) (n - 1) (c - 1)) w := by
  have h : (Instr.slice 34 (.slice p n c) (some (.int .i64 1)) none none).run Tryz.prog w = .ok (.slice (if c = 1 then p else p.map (·.add (1 * 1))) (n - 1) (c - 1)) w := by
    obtain ⟨i, hi, hz⟩ := Option.map_eq_some_iff.1 info5
    simp only [Prod.mk.injEq] at hz
    obtain ⟨hz, hs, hb⟩ := hz
    have h2 : (n : Int) ≤ (c : Int) := by omega
    have h3 : (1 : Int) ≤ (n : Int) := by omega
    have h4 : ¬ n < 1 := by omega
    simp [Instr.slice, Instr.sliceBounds, Instr.sliceBound, asIntOf, run_underlying Tryz.underlying34, sizeOf, typeInfo, hi, hs, h2, h3, hc, h1, h4]
  simp [Instr.sliceAt, run_underlying Tryz.underlying34, h]

set_option maxRecDepth 100000 in
set_option maxHeartbeats 1600000 in
theorem cnext_ok {Z : Nat → Prop} {w : World} {r x : Nat} {t : List Nat} (h : Cq Z w r (x :: t)) :
    Calls Tryz.prog 143 #[.pointer (some ⟨r, 0, none⟩)] w fun e w' => e = .returned (.int .u8 (x : Int)) ∧ Kp (fun b => b = r) w w' ∧ Cq Z w' r t := by
  obtain ⟨q, c, h1, h2, h3, h4⟩ := h
  obtain ⟨b, o, rfl, hb⟩ := h3.pt (show 0 < (x :: t).length by simp)
  have c0 : w.cell? ⟨r, 0, none⟩ = some (.slice (some ⟨b, o, none⟩) (x :: t).length c) := h1.cell (j := 0) rfl
  have f0 : w.frozen? ⟨r, 0, none⟩ = false := h1.fz (j := 0) (by simp)
  have b0 : w.cell? ⟨b, o, none⟩ = some (.int .u8 (x : Int)) := hb 0 (by simp)
  obtain ⟨n, hn⟩ : ∃ n, n = (x :: t).length := ⟨_, rfl⟩
  have hn1 : n = t.length + 1 := by rw [hn]; rfl
  rw [← hn] at c0 h2
  obtain ⟨q2, hq2⟩ : ∃ q2, q2 = (if c = 1 then (some ⟨b, o, none⟩ : Option Addr) else (some ⟨b, o, none⟩ : Option Addr).map (·.add (1 * 1))) := ⟨_, rfl⟩
  have hsl : ∀ z, (Instr.sliceAt 34 (.slice (some ⟨b, o, none⟩) n c) (some (.int .i64 1)) none none).run Tryz.prog z = .ok (.slice q2 (n - 1) (c - 1)) z := fun z => by rw [hq2]; exact slice_rest _ n c h2 (by omega) z
  have HF : Hid (Kp (fun b => b = r) w (w.setCell ⟨r, 0, none⟩ (.slice q2 (n - 1) (c - 1))) ∧ Cq Z (w.setCell ⟨r, 0, none⟩ (.slice q2 (n - 1) (c - 1))) r t) := by
    have k1 : Kp (fun b => b = r) w (w.setCell ⟨r, 0, none⟩ (.slice q2 (n - 1) (c - 1))) := by show Kp _ _ _; exact (Kp.refl (fun b => b = r) w).setCell (fun _ => rfl) _
    have hp := h3.part (by rw [← hn]; exact h2) (l := 1) (r := (x :: t).length) (by simp) (Nat.le_refl _)
    rw [List.take_length, ← hq2] at hp
    have hbr : b ≠ r := (h4 ⟨b, o, none⟩ rfl (by simp)).2
    have hbz : Z b := (h4 ⟨b, o, none⟩ rfl (by simp)).1
    have hqb : ∀ a, q2 = some a → a.block = b := fun a ha => by
      rw [hq2] at ha
      by_cases e : c = 1
      · rw [if_pos e] at ha
        cases ha
        rfl
      · rw [if_neg e] at ha
        have e2 := Option.some.inj ha
        rw [← e2]
        rfl
    have hl : n - 1 = t.length := by omega
    refine ⟨k1, q2, c - 1, ?_, by omega, ?_, fun a ha _ => by rw [hqb a ha]; exact ⟨hbz, hbr⟩⟩
    · rw [← hl]; exact h1.set1 0 _ (by simp)
    · rw [← hl]
      have hp2 : Rb w q2 (n - 1) t := by rw [hn]; exact hp
      exact hp2.keep k1 (fun a ha _ e => hbr (by rw [← hqb a ha]; exact e))
  have hne : ¬ (n : Int) = 0 := by omega
  have hpos : (0 : Int) < (n : Int) := by omega
  clear h1 h2 h3 h4 hb hn hn1 hq2
  go_enter Tryz.func143, Tryz.ntmps143
  go_wp2
  go_ret
  exact ⟨rfl, HF.out⟩

set_option maxRecDepth 100000 in
set_option maxHeartbeats 1600000 in
theorem cnumber_ok {Z : Nat → Prop} {w : World} {r n : Nat} {t : List Nat} (hn : n ≤ 1152921504606846976) (h : Cq Z w r (numB n ++ t)) :
    Calls Tryz.prog 144 #[.pointer (some ⟨r, 0, none⟩)] w fun e w' => e = .returned (.int .i64 (n : Int)) ∧ Kp (fun b => b = r) w w' ∧ Cq Z w' r t := by
  have h8 : numW n ≤ 8 := numW_le (show n < 256 ^ 8 by have : (256 : Nat) ^ 8 = 18446744073709551616 := rfl; omega)
  have HN : Hid (n ≤ 1152921504606846976 ∧ n / 256 ^ numW n = 0) := ⟨hn, Nat.div_eq_of_lt (numW_lt n)⟩
  obtain ⟨K, hK⟩ : ∃ K, K = numW n := ⟨_, rfl⟩
  have HNx : Hid (Calls _ _ _ w _) := cnext_ok (x := numW n) (t := digs (numW n) n ++ t) h
  rw [← hK] at HNx HN h8
  have HK8 : Hid (K ≤ 8) := h8
  clear hK h hn h8
  go_enter Tryz.func144, Tryz.ntmps144
  go_wp2_with fail
  refine HNx.out.mono ?_
  rintro e9 w1 ⟨rfl, k1, q1⟩
  have HQ1 : Hid (Kp (fun b => b = r) w w1 ∧ Cq Z w1 r (digs K n ++ t)) := ⟨k1, q1⟩
  clear k1 q1 HNx
  go_wp2_with fail
  go_loopg [3, 6] K (fun gk av iv wr => ∃ (j a : Nat), j ≤ K ∧ gk = K - j ∧ av = .int .u64 (a : Int) ∧ iv = .int .u8 (j : Int) ∧ Hid (a = n / 256 ^ (K - j) ∧ Kp (fun b => b = r) w wr ∧ Cq Z wr r (digs (K - j) n ++ t)))
  case atStart => exact ⟨0, 0, Nat.zero_le _, rfl, rfl, rfl, HN.out.2.symm, HQ1.out.1, HQ1.out.2⟩
  case round =>
    obtain ⟨j, a, hj, rfl, rfl, rfl, HK⟩ := hrel
    by_cases hlt : j < K
    · have hlt2 : (j : Int) < (K : Int) := by omega
      obtain ⟨m, hm⟩ : ∃ m, K - j = m + 1 := ⟨K - j - 1, by omega⟩
      have hq := HK.out.2.2
      rw [hm] at hq
      obtain ⟨x, hx⟩ : ∃ x, x = (n / 256 ^ m) % 256 := ⟨_, rfl⟩
      have HNx : Hid (Calls _ _ _ wr _) := cnext_ok (x := x) (t := digs m n ++ t) (by rw [hx]; exact hq)
      have ha : a < 256 ^ 7 := by
        have h1 := HK.out.1
        rw [hm] at h1
        rw [h1]
        have h2 := HN.out.1
        refine Nat.div_lt_of_lt_mul ?_
        have h3 : 256 ^ 1 ≤ 256 ^ (m + 1) := Nat.pow_le_pow_right (by decide) (by omega)
        have h4 : 256 ^ 1 * 256 ^ 7 ≤ 256 ^ (m + 1) * 256 ^ 7 := Nat.mul_le_mul_right _ h3
        have h5 : (256 : Nat) ^ 1 * 256 ^ 7 = 18446744073709551616 := rfl
        omega
      have hx8 : x < 256 := by rw [hx]; exact Nat.mod_lt _ (by decide)
      have hor := u64_or_shiftW a x ha hx8
      have hj1 : IntKind.u8.wrap ((j : Int) + 1) = ((j + 1 : Nat) : Int) := by
        have := HK8.out
        simp [IntKind.wrap, IntKind.bits, IntKind.signed]
        omega
      have hxu : IntKind.u64.wrap (x : Int) = (x : Int) := by
        simp [IntKind.wrap, IntKind.bits, IntKind.signed]
        omega
      have HNew : Hid (a * 256 + x = n / 256 ^ (K - (j + 1)) ∧ K - (j + 1) = m) := by
        have h1 := HK.out.1
        rw [hm, Nat.pow_succ, ← Nat.div_div_eq_div_mul] at h1
        have hm2 : K - (j + 1) = m := by omega
        refine ⟨?_, hm2⟩
        rw [hm2, h1, hx]
        omega
      clear hq hx ha hx8 hlt hm
      go_wp2_with fail
      refine HNx.out.mono ?_
      rintro e9 w2 ⟨rfl, k2, q2⟩
      have HF : Hid (Kp (fun b => b = r) w w2 ∧ Cq Z w2 r (digs m n ++ t)) := ⟨HK.out.2.1.trans k2 (fun _ _ e => e), q2⟩
      clear k2 q2 HNx
      go_wp2
      go_roundg (K - (j + 1))
      case rel => exact ⟨j + 1, a * 256 + x, by omega, rfl, by first | rw [hor] | simp, by first | rw [hj1] | simp, HNew.out.1, HF.out.1, by rw [HNew.out.2]; exact HF.out.2⟩
      case measure => omega
    · have hjK : j = K := by omega
      subst hjK
      have hlt2 : ¬ (j : Int) < (j : Int) := by omega
      have hf := HK.out
      rw [Nat.sub_self, Nat.pow_zero, Nat.div_one] at hf
      have ha : a = n := hf.1
      subst ha
      have hw : wrap64 (a : Int) = (a : Int) := by have := HN.out.1; unfold wrap64; omega
      have HF : Hid (Kp (fun b => b = r) w wr ∧ Cq Z wr r t) := ⟨hf.2.1, hf.2.2⟩
      clear hf HK
      go_wp2
      go_ret
      exact ⟨by first | rfl | rw [hw], HF.out⟩
end Go.Proofs.YtmooddbhcccicaaGreatDoor

/- recordOf's drawn region (laid by scripts/mkjrb.py). -/
namespace Go.Proofs.YtmooddbhcccicaaGreatDoor
set_option linter.unusedVariables false
set_option linter.unusedSimpArgs false
open Go.RowKit Go.Deep Go.Maps

theorem ro_st (q2 : Nat) (k n i ep : Int) (pb : Option Addr) (l cb : Nat) (ev : Operand → Value) (z : World) (y0 y1 y2 y3 y4 : Value) (c0 : z.cell? ⟨q2, 0, none⟩ = some y0) (f0 : z.frozen? ⟨q2, 0, none⟩ = false) (c1 : z.cell? ⟨q2, 1, none⟩ = some y1) (f1 : z.frozen? ⟨q2, 1, none⟩ = false) (c2 : z.cell? ⟨q2, 2, none⟩ = some y2) (f2 : z.frozen? ⟨q2, 2, none⟩ = false) (c3 : z.cell? ⟨q2, 3, none⟩ = some y3) (f3 : z.frozen? ⟨q2, 3, none⟩ = false) (c4 : z.cell? ⟨q2, 4, none⟩ = some y4) (f4 : z.frozen? ⟨q2, 4, none⟩ = false) (e2 : ev (.tmp 2) = .pointer (some ⟨q2, 0, none⟩)) (e32 : ev (.tmp 32) = .agg #[.int .i64 k, .int .i64 n, .int .i64 i, .int .i64 ep, .slice pb l cb]) : (execOp ev ⟨none, Op.store 85 (Operand.tmp 2) (Operand.tmp 32), 0, "", #[], none⟩).run Tryz.prog z = .ok .skip (((((z.setCell ⟨q2, 0, none⟩ (.int .i64 k)).setCell ⟨q2, 1, none⟩ (.int .i64 n)).setCell ⟨q2, 2, none⟩ (.int .i64 i)).setCell ⟨q2, 3, none⟩ (.int .i64 ep)).setCell ⟨q2, 4, none⟩ (.slice pb l cb)) := by
  go_simp
theorem ro10_0 (q5 q2 : Nat) (k n i ep : Int) (pb : Option Addr) (l cb : Nat) (p0 : Option Addr) (n0 c0 : Nat) (pw : Option Addr) (cw : Nat) (ev : Operand → Value) (z : World) (ec : ∀ c, ev (.const c) = c) (e5 : ev (.tmp 5) = .pointer (some ⟨q5, 0, none⟩)) (hS : z.cell? ⟨q5, 0, none⟩ = some (.int .i64 k) ∧ z.cell? ⟨q5, 1, none⟩ = some (.int .i64 n) ∧ z.cell? ⟨q5, 2, none⟩ = some (.int .i64 i) ∧ z.cell? ⟨q5, 3, none⟩ = some (.int .i64 ep) ∧ z.cell? ⟨q5, 4, none⟩ = some (.slice pb l cb)) : (execOp ev ⟨some 32, Op.load 85 (Operand.tmp 5), 85, "", #[], none⟩).run Tryz.prog z = .ok (.value (.agg #[.int .i64 k, .int .i64 n, .int .i64 i, .int .i64 ep, .slice pb l cb])) z := by
  obtain ⟨s0, s1, s2, s3, s4⟩ := hS
  go_simp
theorem ro10_1 (q5 q2 : Nat) (k n i ep : Int) (pb : Option Addr) (l cb : Nat) (p0 : Option Addr) (n0 c0 : Nat) (pw : Option Addr) (cw : Nat) (ev : Operand → Value) (z : World) (ec : ∀ c, ev (.const c) = c) (e5 : ev (.tmp 5) = .pointer (some ⟨q5, 0, none⟩)) (hS : z.cell? ⟨q5, 0, none⟩ = some (.int .i64 k) ∧ z.cell? ⟨q5, 1, none⟩ = some (.int .i64 n) ∧ z.cell? ⟨q5, 2, none⟩ = some (.int .i64 i) ∧ z.cell? ⟨q5, 3, none⟩ = some (.int .i64 ep) ∧ z.cell? ⟨q5, 4, none⟩ = some (.slice pb l cb)) : (execOp ev ⟨some 33, Op.load 85 (Operand.tmp 5), 85, "", #[], none⟩).run Tryz.prog z = .ok (.value (.agg #[.int .i64 k, .int .i64 n, .int .i64 i, .int .i64 ep, .slice pb l cb])) z := by
  obtain ⟨s0, s1, s2, s3, s4⟩ := hS
  go_simp
set_option maxRecDepth 100000 in
theorem ro10_2 (q5 q2 : Nat) (k n i ep : Int) (pb : Option Addr) (l cb : Nat) (p0 : Option Addr) (n0 c0 : Nat) (pw : Option Addr) (cw : Nat) (ev : Operand → Value) (z : World) (ec : ∀ c, ev (.const c) = c) (ef : ev (.func 145) = .func (.func 145) #[] #[]) (e33 : ev (.tmp 33) = .agg #[.int .i64 k, .int .i64 n, .int .i64 i, .int .i64 ep, .slice pb l cb]) : (execOp ev ⟨some 34, Op.call { callee := Callee.value (Operand.func 145), args := #[Operand.tmp 33], argTypes := #[85] }, 4, "", #[], none⟩).run Tryz.prog z = .ok (.enter 145 #[.agg #[.int .i64 k, .int .i64 n, .int .i64 i, .int .i64 ep, .slice pb l cb]]) z :=
  enter_run _ ef (by simp only [List.map_toArray, List.map_cons, List.map_nil, ec, e33]) (fun _ => by rfl)
theorem ro10_3 (q5 q2 : Nat) (k n i ep : Int) (pb : Option Addr) (l cb : Nat) (p0 : Option Addr) (n0 c0 : Nat) (pw : Option Addr) (cw : Nat) (ev : Operand → Value) (z : World) (ec : ∀ c, ev (.const c) = c) (e34 : ev (.tmp 34) = .bool true) (hS : z.cell? ⟨q5, 0, none⟩ = some (.int .i64 k) ∧ z.cell? ⟨q5, 1, none⟩ = some (.int .i64 n) ∧ z.cell? ⟨q5, 2, none⟩ = some (.int .i64 i) ∧ z.cell? ⟨q5, 3, none⟩ = some (.int .i64 ep) ∧ z.cell? ⟨q5, 4, none⟩ = some (.slice pb l cb)) : (execOp ev ⟨some 35, Op.move (Operand.tmp 34), 4, "", #[], none⟩).run Tryz.prog z = .ok (.value (.bool true)) z := by
  obtain ⟨s0, s1, s2, s3, s4⟩ := hS
  go_simp
theorem ro10_4 (q5 q2 : Nat) (k n i ep : Int) (pb : Option Addr) (l cb : Nat) (p0 : Option Addr) (n0 c0 : Nat) (pw : Option Addr) (cw : Nat) (ev : Operand → Value) (z : World) (ec : ∀ c, ev (.const c) = c) (e0 : ev (.tmp 0) = .slice p0 n0 c0) (hS : z.cell? ⟨q5, 0, none⟩ = some (.int .i64 k) ∧ z.cell? ⟨q5, 1, none⟩ = some (.int .i64 n) ∧ z.cell? ⟨q5, 2, none⟩ = some (.int .i64 i) ∧ z.cell? ⟨q5, 3, none⟩ = some (.int .i64 ep) ∧ z.cell? ⟨q5, 4, none⟩ = some (.slice pb l cb)) : (execOp ev ⟨some 36, Op.move (Operand.tmp 0), 34, "", #[], some (3, true)⟩).run Tryz.prog z = .ok (.value (.slice p0 n0 c0)) z := by
  obtain ⟨s0, s1, s2, s3, s4⟩ := hS
  go_simp
theorem ro10_5 (q5 q2 : Nat) (k n i ep : Int) (pb : Option Addr) (l cb : Nat) (p0 : Option Addr) (n0 c0 : Nat) (pw : Option Addr) (cw : Nat) (ev : Operand → Value) (z : World) (ec : ∀ c, ev (.const c) = c) (e5 : ev (.tmp 5) = .pointer (some ⟨q5, 0, none⟩)) (hS : z.cell? ⟨q5, 0, none⟩ = some (.int .i64 k) ∧ z.cell? ⟨q5, 1, none⟩ = some (.int .i64 n) ∧ z.cell? ⟨q5, 2, none⟩ = some (.int .i64 i) ∧ z.cell? ⟨q5, 3, none⟩ = some (.int .i64 ep) ∧ z.cell? ⟨q5, 4, none⟩ = some (.slice pb l cb)) : (execOp ev ⟨some 37, Op.load 85 (Operand.tmp 5), 85, "", #[], some (3, true)⟩).run Tryz.prog z = .ok (.value (.agg #[.int .i64 k, .int .i64 n, .int .i64 i, .int .i64 ep, .slice pb l cb])) z := by
  obtain ⟨s0, s1, s2, s3, s4⟩ := hS
  go_simp
set_option maxRecDepth 100000 in
theorem ro10_6 (q5 q2 : Nat) (k n i ep : Int) (pb : Option Addr) (l cb : Nat) (p0 : Option Addr) (n0 c0 : Nat) (pw : Option Addr) (cw : Nat) (ev : Operand → Value) (z : World) (ec : ∀ c, ev (.const c) = c) (ef : ev (.func 86) = .func (.func 86) #[] #[]) (e37 : ev (.tmp 37) = .agg #[.int .i64 k, .int .i64 n, .int .i64 i, .int .i64 ep, .slice pb l cb]) : (execOp ev ⟨some 38, Op.call { callee := Callee.value (Operand.func 86), args := #[Operand.tmp 37], argTypes := #[85] }, 34, "", #[], some (3, true)⟩).run Tryz.prog z = .ok (.enter 86 #[.agg #[.int .i64 k, .int .i64 n, .int .i64 i, .int .i64 ep, .slice pb l cb]]) z :=
  enter_run _ ef (by simp only [List.map_toArray, List.map_cons, List.map_nil, ec, e37]) (fun _ => by rfl)
set_option maxRecDepth 100000 in
theorem ro10_7 (q5 q2 : Nat) (k n i ep : Int) (pb : Option Addr) (l cb : Nat) (p0 : Option Addr) (n0 c0 : Nat) (pw : Option Addr) (cw : Nat) (ev : Operand → Value) (z : World) (ec : ∀ c, ev (.const c) = c) (ef : ev (.func 20) = .func (.func 20) #[] #[]) (e36 : ev (.tmp 36) = .slice p0 n0 c0) (e38 : ev (.tmp 38) = .slice pw n0 cw) : (execOp ev ⟨some 39, Op.call { callee := Callee.value (Operand.func 20), args := #[Operand.tmp 36, Operand.tmp 38], argTypes := #[34, 34] }, 4, "", #[], some (3, true)⟩).run Tryz.prog z = .ok (.enter 20 #[.slice p0 n0 c0, .slice pw n0 cw]) z :=
  enter_run _ ef (by simp only [List.map_toArray, List.map_cons, List.map_nil, ec, e36, e38]) (fun _ => by rfl)
theorem ro10_8 (q5 q2 : Nat) (k n i ep : Int) (pb : Option Addr) (l cb : Nat) (p0 : Option Addr) (n0 c0 : Nat) (pw : Option Addr) (cw : Nat) (ev : Operand → Value) (z : World) (ec : ∀ c, ev (.const c) = c) (e35 : ev (.tmp 35) = .bool true) (e39 : ev (.tmp 39) = .bool true) (hS : z.cell? ⟨q5, 0, none⟩ = some (.int .i64 k) ∧ z.cell? ⟨q5, 1, none⟩ = some (.int .i64 n) ∧ z.cell? ⟨q5, 2, none⟩ = some (.int .i64 i) ∧ z.cell? ⟨q5, 3, none⟩ = some (.int .i64 ep) ∧ z.cell? ⟨q5, 4, none⟩ = some (.slice pb l cb)) : (execOp ev ⟨some 40, Op.pick (Operand.tmp 35) (Operand.tmp 39) (Operand.const (Value.bool false)), 4, "", #[], none⟩).run Tryz.prog z = .ok (.value (.bool true)) z := by
  obtain ⟨s0, s1, s2, s3, s4⟩ := hS
  go_simp
theorem ro10_10 (q5 q2 : Nat) (k n i ep : Int) (pb : Option Addr) (l cb : Nat) (p0 : Option Addr) (n0 c0 : Nat) (pw : Option Addr) (cw : Nat) (ev : Operand → Value) (z : World) (ec : ∀ c, ev (.const c) = c) (e40 : ev (.tmp 40) = .bool true) (hS : z.cell? ⟨q5, 0, none⟩ = some (.int .i64 k) ∧ z.cell? ⟨q5, 1, none⟩ = some (.int .i64 n) ∧ z.cell? ⟨q5, 2, none⟩ = some (.int .i64 i) ∧ z.cell? ⟨q5, 3, none⟩ = some (.int .i64 ep) ∧ z.cell? ⟨q5, 4, none⟩ = some (.slice pb l cb)) : (execOp ev ⟨some 3, Op.assign (Operand.tmp 40), 4, "", #[], none⟩).run Tryz.prog z = .ok (.value (.bool true)) z := by
  obtain ⟨s0, s1, s2, s3, s4⟩ := hS
  go_simp
structure ro10R (ops : Array Oper) : Prop where
  size : ops.size = 11
  sel : Region.noSelect ops = true
  o0 : (ops[0]?).map bare = some ⟨some 32, Op.load 85 (Operand.tmp 5), 85, "", #[], none⟩
  o1 : (ops[1]?).map bare = some ⟨some 33, Op.load 85 (Operand.tmp 5), 85, "", #[], none⟩
  o2 : (ops[2]?).map bare = some ⟨some 34, Op.call { callee := Callee.value (Operand.func 145), args := #[Operand.tmp 33], argTypes := #[85] }, 4, "", #[], none⟩
  o3 : (ops[3]?).map bare = some ⟨some 35, Op.move (Operand.tmp 34), 4, "", #[], none⟩
  o4 : (ops[4]?).map bare = some ⟨some 36, Op.move (Operand.tmp 0), 34, "", #[], some (3, true)⟩
  o5 : (ops[5]?).map bare = some ⟨some 37, Op.load 85 (Operand.tmp 5), 85, "", #[], some (3, true)⟩
  o6 : (ops[6]?).map bare = some ⟨some 38, Op.call { callee := Callee.value (Operand.func 86), args := #[Operand.tmp 37], argTypes := #[85] }, 34, "", #[], some (3, true)⟩
  o7 : (ops[7]?).map bare = some ⟨some 39, Op.call { callee := Callee.value (Operand.func 20), args := #[Operand.tmp 36, Operand.tmp 38], argTypes := #[34, 34] }, 4, "", #[], some (3, true)⟩
  o8 : (ops[8]?).map bare = some ⟨some 40, Op.pick (Operand.tmp 35) (Operand.tmp 39) (Operand.const (Value.bool false)), 4, "", #[], none⟩
  o9 : (ops[9]?).map bare = some ⟨none, Op.store 85 (Operand.tmp 2) (Operand.tmp 32), 0, "", #[], none⟩
  o10 : (ops[10]?).map bare = some ⟨some 3, Op.assign (Operand.tmp 40), 4, "", #[], none⟩
  may0 : takeB .any ops [0, 1] (Array.replicate 11 false) = true
  r2 : Region.ready .any ops (mark [0, 1] (Array.replicate 11 false)) = [2]
  may1 : takeB .any ops [3, 4, 5] ((mark [0, 1] (Array.replicate 11 false)).setIfInBounds 2 true) = true
  r6 : Region.ready .any ops (mark [3, 4, 5] ((mark [0, 1] (Array.replicate 11 false)).setIfInBounds 2 true)) = [6]
  r7 : Region.ready .any ops ((mark [3, 4, 5] ((mark [0, 1] (Array.replicate 11 false)).setIfInBounds 2 true)).setIfInBounds 6 true) = [7]
  may2 : takeB .any ops [8] (((mark [3, 4, 5] ((mark [0, 1] (Array.replicate 11 false)).setIfInBounds 2 true)).setIfInBounds 6 true).setIfInBounds 7 true) = true
  r9 : Region.ready .any ops (mark [8] (((mark [3, 4, 5] ((mark [0, 1] (Array.replicate 11 false)).setIfInBounds 2 true)).setIfInBounds 6 true).setIfInBounds 7 true)) = [9]
  may3 : takeB .any ops [10] ((mark [8] (((mark [3, 4, 5] ((mark [0, 1] (Array.replicate 11 false)).setIfInBounds 2 true)).setIfInBounds 6 true).setIfInBounds 7 true)).setIfInBounds 9 true) = true
  fin : Region.ready .any ops (mark [10] ((mark [8] (((mark [3, 4, 5] ((mark [0, 1] (Array.replicate 11 false)).setIfInBounds 2 true)).setIfInBounds 6 true).setIfInBounds 7 true)).setIfInBounds 9 true)) = []

set_option maxRecDepth 100000 in
set_option maxHeartbeats 3200000 in
theorem ro10_region {ops : Array Oper} {id : Nat} {Q : Exit → Act → World → Prop} {a : Act} {y : World} (R : ro10R ops) (q5 q2 : Nat) (k n i ep : Int) (pb : Option Addr) (l cb : Nat) (p0 : Option Addr) (n0 c0 : Nat) (pw : Option Addr) (cw : Nat)
    (hQ : ∀ d v c a w, Q (.panic c) (a.put d v) w → Q (.panic c) a w) (hsz : a.tmps.size = 41) (e0 : a.eval (.tmp 0) = .slice p0 n0 c0) (e2 : a.eval (.tmp 2) = .pointer (some ⟨q2, 0, none⟩)) (e5 : a.eval (.tmp 5) = .pointer (some ⟨q5, 0, none⟩)) (hS0 : y.drew.cell? ⟨q5, 0, none⟩ = some (.int .i64 k) ∧ y.drew.cell? ⟨q5, 1, none⟩ = some (.int .i64 n) ∧ y.drew.cell? ⟨q5, 2, none⟩ = some (.int .i64 i) ∧ y.drew.cell? ⟨q5, 3, none⟩ = some (.int .i64 ep) ∧ y.drew.cell? ⟨q5, 4, none⟩ = some (.slice pb l cb)) (T : World → Prop) (hc : Calls Tryz.prog 145 #[.agg #[.int .i64 k, .int .i64 n, .int .i64 i, .int .i64 ep, .slice pb l cb]] y.drew fun e w9 => e = .returned (.bool true) ∧ (w9.cell? ⟨q5, 0, none⟩ = some (.int .i64 k) ∧ w9.cell? ⟨q5, 1, none⟩ = some (.int .i64 n) ∧ w9.cell? ⟨q5, 2, none⟩ = some (.int .i64 i) ∧ w9.cell? ⟨q5, 3, none⟩ = some (.int .i64 ep) ∧ w9.cell? ⟨q5, 4, none⟩ = some (.slice pb l cb)) ∧ Calls Tryz.prog 86 #[.agg #[.int .i64 k, .int .i64 n, .int .i64 i, .int .i64 ep, .slice pb l cb]] w9 fun e w9 => ∃ pw cw, e = .returned (.slice pw n0 cw) ∧ (w9.cell? ⟨q5, 0, none⟩ = some (.int .i64 k) ∧ w9.cell? ⟨q5, 1, none⟩ = some (.int .i64 n) ∧ w9.cell? ⟨q5, 2, none⟩ = some (.int .i64 i) ∧ w9.cell? ⟨q5, 3, none⟩ = some (.int .i64 ep) ∧ w9.cell? ⟨q5, 4, none⟩ = some (.slice pb l cb)) ∧ Calls Tryz.prog 20 #[.slice p0 n0 c0, .slice pw n0 cw] w9 fun e w9 => e = .returned (.bool true) ∧ (w9.cell? ⟨q5, 0, none⟩ = some (.int .i64 k) ∧ w9.cell? ⟨q5, 1, none⟩ = some (.int .i64 n) ∧ w9.cell? ⟨q5, 2, none⟩ = some (.int .i64 i) ∧ w9.cell? ⟨q5, 3, none⟩ = some (.int .i64 ep) ∧ w9.cell? ⟨q5, 4, none⟩ = some (.slice pb l cb)) ∧ (∃ y0 y1 y2 y3 y4, w9.cell? ⟨q2, 0, none⟩ = some y0 ∧ w9.frozen? ⟨q2, 0, none⟩ = false ∧ w9.cell? ⟨q2, 1, none⟩ = some y1 ∧ w9.frozen? ⟨q2, 1, none⟩ = false ∧ w9.cell? ⟨q2, 2, none⟩ = some y2 ∧ w9.frozen? ⟨q2, 2, none⟩ = false ∧ w9.cell? ⟨q2, 3, none⟩ = some y3 ∧ w9.frozen? ⟨q2, 3, none⟩ = false ∧ w9.cell? ⟨q2, 4, none⟩ = some y4 ∧ w9.frozen? ⟨q2, 4, none⟩ = false) ∧ ((((((w9.setCell ⟨q2, 0, none⟩ (.int .i64 k)).setCell ⟨q2, 1, none⟩ (.int .i64 n)).setCell ⟨q2, 2, none⟩ (.int .i64 i)).setCell ⟨q2, 3, none⟩ (.int .i64 ep)).setCell ⟨q2, 4, none⟩ (.slice pb l cb)).cell? ⟨q5, 0, none⟩ = some (.int .i64 k) ∧ (((((w9.setCell ⟨q2, 0, none⟩ (.int .i64 k)).setCell ⟨q2, 1, none⟩ (.int .i64 n)).setCell ⟨q2, 2, none⟩ (.int .i64 i)).setCell ⟨q2, 3, none⟩ (.int .i64 ep)).setCell ⟨q2, 4, none⟩ (.slice pb l cb)).cell? ⟨q5, 1, none⟩ = some (.int .i64 n) ∧ (((((w9.setCell ⟨q2, 0, none⟩ (.int .i64 k)).setCell ⟨q2, 1, none⟩ (.int .i64 n)).setCell ⟨q2, 2, none⟩ (.int .i64 i)).setCell ⟨q2, 3, none⟩ (.int .i64 ep)).setCell ⟨q2, 4, none⟩ (.slice pb l cb)).cell? ⟨q5, 2, none⟩ = some (.int .i64 i) ∧ (((((w9.setCell ⟨q2, 0, none⟩ (.int .i64 k)).setCell ⟨q2, 1, none⟩ (.int .i64 n)).setCell ⟨q2, 2, none⟩ (.int .i64 i)).setCell ⟨q2, 3, none⟩ (.int .i64 ep)).setCell ⟨q2, 4, none⟩ (.slice pb l cb)).cell? ⟨q5, 3, none⟩ = some (.int .i64 ep) ∧ (((((w9.setCell ⟨q2, 0, none⟩ (.int .i64 k)).setCell ⟨q2, 1, none⟩ (.int .i64 n)).setCell ⟨q2, 2, none⟩ (.int .i64 i)).setCell ⟨q2, 3, none⟩ (.int .i64 ep)).setCell ⟨q2, 4, none⟩ (.slice pb l cb)).cell? ⟨q5, 4, none⟩ = some (.slice pb l cb)) ∧ T (((((w9.setCell ⟨q2, 0, none⟩ (.int .i64 k)).setCell ⟨q2, 1, none⟩ (.int .i64 n)).setCell ⟨q2, 2, none⟩ (.int .i64 i)).setCell ⟨q2, 3, none⟩ (.int .i64 ep)).setCell ⟨q2, 4, none⟩ (.slice pb l cb)))
    (hK : ∀ (pw : Option Addr) (cw : Nat) (w9 : World), T (((((w9.setCell ⟨q2, 0, none⟩ (.int .i64 k)).setCell ⟨q2, 1, none⟩ (.int .i64 n)).setCell ⟨q2, 2, none⟩ (.int .i64 i)).setCell ⟨q2, 3, none⟩ (.int .i64 ep)).setCell ⟨q2, 4, none⟩ (.slice pb l cb)) → Q .normal ((((((((((a.put (some 32) (.agg #[.int .i64 k, .int .i64 n, .int .i64 i, .int .i64 ep, .slice pb l cb])).put (some 33) (.agg #[.int .i64 k, .int .i64 n, .int .i64 i, .int .i64 ep, .slice pb l cb])).put (some 34) (.bool true)).put (some 35) (.bool true)).put (some 36) (.slice p0 n0 c0)).put (some 37) (.agg #[.int .i64 k, .int .i64 n, .int .i64 i, .int .i64 ep, .slice pb l cb])).put (some 38) (.slice pw n0 cw)).put (some 39) (.bool true)).put (some 40) (.bool true)).put (some 3) (.bool true)) (((((w9.setCell ⟨q2, 0, none⟩ (.int .i64 k)).setCell ⟨q2, 1, none⟩ (.int .i64 n)).setCell ⟨q2, 2, none⟩ (.int .i64 i)).setCell ⟨q2, 3, none⟩ (.int .i64 ep)).setCell ⟨q2, 4, none⟩ (.slice pb l cb))) : (Code.region id ops true).wp Tryz.prog Q a y := by
  have HR : Hid (ro10R ops) := R
  have hdf : a.defers = a.defers := rfl
  refine wp_region_held_drew (S := (fun z : World => z.cell? ⟨q5, 0, none⟩ = some (.int .i64 k) ∧ z.cell? ⟨q5, 1, none⟩ = some (.int .i64 n) ∧ z.cell? ⟨q5, 2, none⟩ = some (.int .i64 i) ∧ z.cell? ⟨q5, 3, none⟩ = some (.int .i64 ep) ∧ z.cell? ⟨q5, 4, none⟩ = some (.slice pb l cb))) (by kernel_rfl) (hS0) (fun hHeld => ?_)
  rw [R.size]
  clear R
  refine wpAnyH_takes HR.out.sel hQ hHeld [0, 1] 9 _ _ HR.out.may0 ?_
  refine wpTake_stepE ⟨some 32, Op.load 85 (Operand.tmp 5), 85, "", #[], none⟩ 32 (.agg #[.int .i64 k, .int .i64 n, .int .i64 i, .int .i64 ep, .slice pb l cb]) HR.out.o0 rfl (by rw [hsz]; decide) (wanted_none rfl) (fun z hS => ro10_0 q5 q2 k n i ep pb l cb p0 n0 c0 pw cw _ z (fun _ => rfl) e5 hS) ?_
  intro a1 ha1 s1 f1 n1 k1
  replace hsz := s1.trans hsz
  replace hdf := f1.trans hdf
  replace e0 := (k1 0 (by decide)).trans e0
  replace e2 := (k1 2 (by decide)).trans e2
  replace e5 := (k1 5 (by decide)).trans e5
  have e32 := n1
  clear s1 f1 n1 k1
  refine wpTake_stepE ⟨some 33, Op.load 85 (Operand.tmp 5), 85, "", #[], none⟩ 33 (.agg #[.int .i64 k, .int .i64 n, .int .i64 i, .int .i64 ep, .slice pb l cb]) HR.out.o1 rfl (by rw [hsz]; decide) (wanted_none rfl) (fun z hS => ro10_1 q5 q2 k n i ep pb l cb p0 n0 c0 pw cw _ z (fun _ => rfl) e5 hS) ?_
  intro a2 ha2 s1 f1 n1 k1
  replace hsz := s1.trans hsz
  replace hdf := f1.trans hdf
  replace e0 := (k1 0 (by decide)).trans e0
  replace e2 := (k1 2 (by decide)).trans e2
  replace e5 := (k1 5 (by decide)).trans e5
  replace e32 := (k1 32 (by decide)).trans e32
  have e33 := n1
  clear s1 f1 n1 k1
  refine wpTake_nil ?_
  refine wpAnyH_one ⟨some 34, Op.call { callee := Callee.value (Operand.func 145), args := #[Operand.tmp 33], argTypes := #[85] }, 4, "", #[], none⟩ HR.out.r2 HR.out.o2 rfl (fun K' hK' => ?_)
  refine wp_enter (ro10_2 q5 q2 k n i ep pb l cb p0 n0 c0 pw cw _ _ (fun _ => rfl) rfl e33) (hc) ?_
  rintro e9 w9 ⟨rfl, hS9, hc2⟩
  refine ⟨_, rfl, hK'.out _ _ (hS9) ?_⟩
  replace hHeld := hS9
  clear hK' K'
  show wpAnyH _ _ _ _ _ _ _ (Act.put a2 (some 34) (.bool true)) _
  obtain ⟨s1, f1, n1, k1⟩ := act_put a2 34 (.bool true) (show 34 < _ by rw [hsz]; decide)
  obtain ⟨a3, ha3⟩ : ∃ x, x = Act.put a2 (some 34) (.bool true) := ⟨_, rfl⟩
  rw [← ha3] at s1 f1 n1 k1 ⊢
  replace hsz := s1.trans hsz
  replace hdf := f1.trans hdf
  replace e0 := (k1 0 (by decide)).trans e0
  replace e2 := (k1 2 (by decide)).trans e2
  replace e5 := (k1 5 (by decide)).trans e5
  replace e32 := (k1 32 (by decide)).trans e32
  have e34 := n1
  clear s1 f1 n1 k1
  refine wpAnyH_takes HR.out.sel hQ hHeld [3, 4, 5] 5 _ _ HR.out.may1 ?_
  refine wpTake_stepE ⟨some 35, Op.move (Operand.tmp 34), 4, "", #[], none⟩ 35 (.bool true) HR.out.o3 rfl (by rw [hsz]; decide) (wanted_none rfl) (fun z hS => ro10_3 q5 q2 k n i ep pb l cb p0 n0 c0 pw cw _ z (fun _ => rfl) e34 hS) ?_
  intro a4 ha4 s1 f1 n1 k1
  replace hsz := s1.trans hsz
  replace hdf := f1.trans hdf
  replace e0 := (k1 0 (by decide)).trans e0
  replace e2 := (k1 2 (by decide)).trans e2
  replace e5 := (k1 5 (by decide)).trans e5
  replace e32 := (k1 32 (by decide)).trans e32
  have e35 := n1
  clear s1 f1 n1 k1
  refine wpTake_stepE ⟨some 36, Op.move (Operand.tmp 0), 34, "", #[], some (3, true)⟩ 36 (.slice p0 n0 c0) HR.out.o4 rfl (by rw [hsz]; decide) (wanted_some rfl (yielded_of HR.out.o3 rfl e35 (by rw [hsz]; decide))) (fun z hS => ro10_4 q5 q2 k n i ep pb l cb p0 n0 c0 pw cw _ z (fun _ => rfl) e0 hS) ?_
  intro a5 ha5 s1 f1 n1 k1
  replace hsz := s1.trans hsz
  replace hdf := f1.trans hdf
  replace e2 := (k1 2 (by decide)).trans e2
  replace e5 := (k1 5 (by decide)).trans e5
  replace e32 := (k1 32 (by decide)).trans e32
  replace e35 := (k1 35 (by decide)).trans e35
  have e36 := n1
  clear s1 f1 n1 k1
  refine wpTake_stepE ⟨some 37, Op.load 85 (Operand.tmp 5), 85, "", #[], some (3, true)⟩ 37 (.agg #[.int .i64 k, .int .i64 n, .int .i64 i, .int .i64 ep, .slice pb l cb]) HR.out.o5 rfl (by rw [hsz]; decide) (wanted_some rfl (yielded_of HR.out.o3 rfl e35 (by rw [hsz]; decide))) (fun z hS => ro10_5 q5 q2 k n i ep pb l cb p0 n0 c0 pw cw _ z (fun _ => rfl) e5 hS) ?_
  intro a6 ha6 s1 f1 n1 k1
  replace hsz := s1.trans hsz
  replace hdf := f1.trans hdf
  replace e2 := (k1 2 (by decide)).trans e2
  replace e32 := (k1 32 (by decide)).trans e32
  replace e35 := (k1 35 (by decide)).trans e35
  replace e36 := (k1 36 (by decide)).trans e36
  have e37 := n1
  clear s1 f1 n1 k1
  refine wpTake_nil ?_
  refine wpAnyH_oneG ⟨some 38, Op.call { callee := Callee.value (Operand.func 86), args := #[Operand.tmp 37], argTypes := #[85] }, 34, "", #[], some (3, true)⟩ HR.out.r6 HR.out.o6 (wanted_some rfl (yielded_of HR.out.o3 rfl e35 (by rw [hsz]; decide))) (fun K' hK' => ?_)
  refine wp_enter (ro10_6 q5 q2 k n i ep pb l cb p0 n0 c0 pw cw _ _ (fun _ => rfl) rfl e37) (hc2) ?_
  rintro e9 w9 ⟨pw, cw, rfl, hS9, hc3⟩
  refine ⟨_, rfl, hK'.out _ _ (hS9) ?_⟩
  replace hHeld := hS9
  clear hK' K'
  show wpAnyH _ _ _ _ _ _ _ (Act.put a6 (some 38) (.slice pw n0 cw)) _
  obtain ⟨s1, f1, n1, k1⟩ := act_put a6 38 (.slice pw n0 cw) (show 38 < _ by rw [hsz]; decide)
  obtain ⟨a7, ha7⟩ : ∃ x, x = Act.put a6 (some 38) (.slice pw n0 cw) := ⟨_, rfl⟩
  rw [← ha7] at s1 f1 n1 k1 ⊢
  replace hsz := s1.trans hsz
  replace hdf := f1.trans hdf
  replace e2 := (k1 2 (by decide)).trans e2
  replace e32 := (k1 32 (by decide)).trans e32
  replace e35 := (k1 35 (by decide)).trans e35
  replace e36 := (k1 36 (by decide)).trans e36
  have e38 := n1
  clear s1 f1 n1 k1
  refine wpAnyH_oneG ⟨some 39, Op.call { callee := Callee.value (Operand.func 20), args := #[Operand.tmp 36, Operand.tmp 38], argTypes := #[34, 34] }, 4, "", #[], some (3, true)⟩ HR.out.r7 HR.out.o7 (wanted_some rfl (yielded_of HR.out.o3 rfl e35 (by rw [hsz]; decide))) (fun K' hK' => ?_)
  refine wp_enter (ro10_7 q5 q2 k n i ep pb l cb p0 n0 c0 pw cw _ _ (fun _ => rfl) rfl e36 e38) (hc3) ?_
  rintro e9 w9 ⟨rfl, hS9, ⟨y0, y1, y2, y3, y4, d0, g0, d1, g1, d2, g2, d3, g3, d4, g4⟩, hS10, hT⟩
  refine ⟨_, rfl, hK'.out _ _ (hS9) ?_⟩
  replace hHeld := hS9
  clear hK' K'
  show wpAnyH _ _ _ _ _ _ _ (Act.put a7 (some 39) (.bool true)) _
  obtain ⟨s1, f1, n1, k1⟩ := act_put a7 39 (.bool true) (show 39 < _ by rw [hsz]; decide)
  obtain ⟨a8, ha8⟩ : ∃ x, x = Act.put a7 (some 39) (.bool true) := ⟨_, rfl⟩
  rw [← ha8] at s1 f1 n1 k1 ⊢
  replace hsz := s1.trans hsz
  replace hdf := f1.trans hdf
  replace e2 := (k1 2 (by decide)).trans e2
  replace e32 := (k1 32 (by decide)).trans e32
  replace e35 := (k1 35 (by decide)).trans e35
  have e39 := n1
  clear s1 f1 n1 k1
  refine wpAnyH_takes HR.out.sel hQ hHeld [8] 2 _ _ HR.out.may2 ?_
  refine wpTake_stepE ⟨some 40, Op.pick (Operand.tmp 35) (Operand.tmp 39) (Operand.const (Value.bool false)), 4, "", #[], none⟩ 40 (.bool true) HR.out.o8 rfl (by rw [hsz]; decide) (wanted_none rfl) (fun z hS => ro10_8 q5 q2 k n i ep pb l cb p0 n0 c0 pw cw _ z (fun _ => rfl) e35 e39 hS) ?_
  intro a9 ha9 s1 f1 n1 k1
  replace hsz := s1.trans hsz
  replace hdf := f1.trans hdf
  replace e2 := (k1 2 (by decide)).trans e2
  replace e32 := (k1 32 (by decide)).trans e32
  have e40 := n1
  clear s1 f1 n1 k1
  refine wpTake_nil ?_
  refine wpAnyH_skip ⟨none, Op.store 85 (Operand.tmp 2) (Operand.tmp 32), 0, "", #[], none⟩ (((((w9.setCell ⟨q2, 0, none⟩ (.int .i64 k)).setCell ⟨q2, 1, none⟩ (.int .i64 n)).setCell ⟨q2, 2, none⟩ (.int .i64 i)).setCell ⟨q2, 3, none⟩ (.int .i64 ep)).setCell ⟨q2, 4, none⟩ (.slice pb l cb)) HR.out.r9 HR.out.o9 rfl rfl (ro_st q2 k n i ep pb l cb _ _ y0 y1 y2 y3 y4 d0 g0 d1 g1 d2 g2 d3 g3 d4 g4 e2 e32) (hS10) ?_
  replace hHeld := hS10
  refine wpAnyH_takes HR.out.sel hQ hHeld [10] 0 _ _ HR.out.may3 ?_
  refine wpTake_stepE ⟨some 3, Op.assign (Operand.tmp 40), 4, "", #[], none⟩ 3 (.bool true) HR.out.o10 rfl (by rw [hsz]; decide) (wanted_none rfl) (fun z hS => ro10_10 q5 q2 k n i ep pb l cb p0 n0 c0 pw cw _ z (fun _ => rfl) e40 hS) ?_
  intro a10 ha10 s1 f1 n1 k1
  replace hsz := s1.trans hsz
  replace hdf := f1.trans hdf
  clear s1 f1 n1 k1
  refine wpTake_nil ?_
  refine wpAnyH_done HR.out.fin ?_ _
  rw [ha10, ha9, ha8, ha7, ha6, ha5, ha4, ha3, ha2, ha1]
  exact hK _ _ _ hT
-- R: ⟨by kernel_rfl, by kernel_rfl, by kernel_rfl, by kernel_rfl, by kernel_rfl, by kernel_rfl, by kernel_rfl, by kernel_rfl, by kernel_rfl, by kernel_rfl, by kernel_rfl, by kernel_rfl, by kernel_rfl, by kernel_rfl, by kernel_rfl, by kernel_rfl, by kernel_rfl, by kernel_rfl, by kernel_rfl, by kernel_rfl, by kernel_rfl, by kernel_rfl⟩

end Go.Proofs.YtmooddbhcccicaaGreatDoor
