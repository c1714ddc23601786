/- Heaps: up, of shards that wait. -/
import Derived.Test.YtnpaoppfhffoiaaJf
namespace Go.Proofs.Ytnpaoppfhffoiaa
set_option linter.unusedVariables false
open Go.RowKit Go.Deep Go.Maps

/-- the one at j goes up -/
def upW : Nat → List Wt → Nat → List Wt
  | 0, l, _ => l
  | f + 1, l, j => if j = 0 then l else if (l.getD j wt0).t < (l.getD ((j - 1) / 2) wt0).t then upW f (swW l ((j - 1) / 2) j) ((j - 1) / 2) else l
theorem upW_succ (f : Nat) (l : List Wt) (j : Nat) : upW (f + 1) l j = if j = 0 then l else if (l.getD j wt0).t < (l.getD ((j - 1) / 2) wt0).t then upW f (swW l ((j - 1) / 2) j) ((j - 1) / 2) else l := rfl
theorem mPushW (v : Value) (w : World) : (method 236 52 v "Push").run Try.prog w = .ok (92, v) w := by kernel_rfl
theorem mPopW (v : Value) (w : World) : (method 236 52 v "Pop").run Try.prog w = .ok (91, v) w := by kernel_rfl
theorem mLenW (v : Value) (w : World) : (method 236 52 v "Len").run Try.prog w = .ok (44, v) w := by kernel_rfl
theorem mLessW (v : Value) (w : World) : (method 236 52 v "Less").run Try.prog w = .ok (90, v) w := by kernel_rfl
theorem mSwapW (v : Value) (w : World) : (method 236 52 v "Swap").run Try.prog w = .ok (93, v) w := by kernel_rfl
theorem upW_fuel : ∀ f f' l j, j < f → j < f' → upW f l j = upW f' l j
  | 0, _, _, _, h, _ => absurd h (Nat.not_lt_zero _)
  | f + 1, 0, _, _, _, h => absurd h (Nat.not_lt_zero _)
  | f + 1, f' + 1, l, j, h, h' => by
    unfold upW
    by_cases e : j = 0
    · rw [if_pos e, if_pos e]
    · rw [if_neg e, if_neg e]
      by_cases e2 : (l.getD j wt0).t < (l.getD ((j - 1) / 2) wt0).t
      · rw [if_pos e2, if_pos e2]; exact upW_fuel f f' _ _ (by omega) (by omega)
      · rw [if_neg e2, if_neg e2]


set_option maxRecDepth 100000 in
set_option maxHeartbeats 1600000 in
theorem wup {w : World} {h mb : Nat} {v : Value} {l : List Wt} (x : Hw w h mb v l) (j : Nat) (hj : j < l.length) (hl : l.length ≤ 1000) :
    Calls Try.prog 53 #[.iface 52 (.pointer (some ⟨h, 0, none⟩)), .int .i64 j] w fun e w' => e = .returned (.tuple #[]) ∧ Kp (Hs h mb v) w w' ∧ Hw w' h mb v (upW (j + 1) l j) := by
  have HX : Hid (Hw w h mb v l) := x
  have HL : Hid (j < l.length ∧ l.length ≤ 1000) := ⟨hj, hl⟩
  obtain ⟨r, hr⟩ : ∃ r, r = upW (j + 1) l j := ⟨_, rfl⟩
  rw [← hr]
  clear x hj hl
  go_enter Try.func53, Try.ntmps53
  go_wp2
  go_loopg [1] (j + 1) (fun gk jv wr => ∃ (i : Nat) (m : List Wt), i ≤ j ∧ gk = i + 1 ∧ jv = .int .i64 i ∧ Hid (Kp (Hs h mb v) w wr) ∧ Hid (Hw wr h mb v m) ∧ Hid (m.length = l.length ∧ r = upW (i + 1) m i))
  case atStart => exact ⟨j, l, Nat.le_refl _, rfl, rfl, Kp.refl _ _, HX, ⟨rfl, hr⟩⟩
  case round =>
    obtain ⟨i, m, hi, rfl, rfl, HK, HM, HR⟩ := hrel
    clear hr
    by_cases h0 : i = 0
    · subst h0
      have HRm : Hid (r = m) := HR.out.2
      go_wp2
      go_end0
      exact ⟨rfl, HK.out, by rw [HRm.out]; exact HM.out⟩
    · have HI : Hid (i < m.length ∧ (i - 1) / 2 < m.length ∧ m.length ≤ 1000) := by show _ ∧ _; have h1 := HR.out.1; have h2 := HL.out; omega
      have hw1 : wrap64 ((i : Int) - 1) = ((i - 1 : Nat) : Int) := by have := HI.out; unfold wrap64; omega
      have hq : ((i - 1 : Nat) : Int).tdiv 2 = (((i - 1) / 2 : Nat) : Int) := by
        rw [Int.tdiv_eq_ediv_of_nonneg (by omega)]; omega
      obtain ⟨q, hqq⟩ : ∃ q, q = (i - 1) / 2 := ⟨_, rfl⟩
      rw [← hqq] at hq
      have hwq : wrap64 ((q : Int)) = (q : Int) := by have := HI.out; unfold wrap64; omega
      have hne : ¬ ((q : Int) = (i : Int)) := by omega
      have HQ : Hid (q = (i - 1) / 2) := hqq
      have hs1 := mLessW (.pointer (some ⟨h, 0, none⟩)) wr
      have HE : Hid (Calls _ _ _ wr _) := wless_ok HM.out i q HI.out.1 (by rw [hqq]; exact HI.out.2.1)
      obtain ⟨d, hd⟩ : ∃ d, d = decide ((m.getD i wt0).t < (m.getD q wt0).t) := ⟨_, rfl⟩
      have HD : Hid (d = decide ((m.getD i wt0).t < (m.getD q wt0).t)) := hd
      rw [← hd] at HE
      clear hd hqq
      go_wp2_with fail
      refine HE.out.mono ?_
      rintro e w1 ⟨rfl, k1⟩
      have HM1 : Hid (Hw w1 h mb v m) := HM.out.keep0 k1
      have HK1 : Hid (Kp (Hs h mb v) w w1) := HK.out.trans k1 (fun _ _ e => e.elim)
      clear HE k1 hs1
      cases d with
      | false =>
        have HRm : Hid (r = m) := by
          have h1 := HR.out.2
          have h2 : ¬ ((m.getD i wt0).t < (m.getD q wt0).t) := of_decide_eq_false HD.out.symm
          show r = m
          rw [h1, upW_succ, if_neg h0, ← HQ.out, if_neg h2]
        go_wp2
        go_end0
        exact ⟨rfl, HK1.out, by rw [HRm.out]; exact HM1.out⟩
      | true =>
        have hs2 := mSwapW (.pointer (some ⟨h, 0, none⟩)) w1
        have HE2 : Hid (Calls _ _ _ w1 _) := wswap_ok HM1.out q i (by rw [HQ.out]; exact HI.out.2.1) HI.out.1 HI.out.2.2
        have HRn : Hid (r = upW i (swW m q i) q) := by
          have h1 := HR.out.2
          have h2 : (m.getD i wt0).t < (m.getD q wt0).t := of_decide_eq_true HD.out.symm
          show r = _
          rw [h1, upW_succ, if_neg h0, ← HQ.out, if_pos h2]
        go_wp2_with fail
        refine HE2.out.mono ?_
        rintro e w2 ⟨rfl, k2, h2⟩
        have HM2 : Hid (Hw w2 h mb v (swW m q i)) := h2
        have HK2 : Hid (Kp (Hs h mb v) w w2) := HK1.out.trans k2 (fun b _ e => e)
        clear HE2 h2 k2 hs2
        go_wp2
        go_roundg (q + 1)
        case rel => exact ⟨q, swW m q i, by have := HQ.out; omega, rfl, rfl, HK2, HM2, ⟨by rw [swW_len]; exact HR.out.1, by rw [HRn.out]; exact upW_fuel _ _ _ _ (by have := HQ.out; omega) (by omega)⟩⟩
        case measure => have := HQ.out; omega
end Go.Proofs.Ytnpaoppfhffoiaa
