/- Heaps: up. -/
import Derived.Test.YtneobpdbfbcnmaaHd
namespace Go.Proofs.Ytneobpdbfbcnmaa
set_option linter.unusedVariables false
open Go.RowKit Go.Deep

theorem mPush (v : Value) (w : World) : (method 184 51 v "Push").run Try.prog w = .ok (45, v) w := by kernel_rfl
theorem mPop (v : Value) (w : World) : (method 184 51 v "Pop").run Try.prog w = .ok (52, v) w := by kernel_rfl
theorem mLeft (v : Value) (w : World) : (method 184 51 v "amphora/place.left").run Try.prog w = .ok (47, v) w := by kernel_rfl
theorem mTake (v : Value) (w : World) : (method 184 51 v "amphora/place.take").run Try.prog w = .ok (48, v) w := by kernel_rfl
theorem mLen {h : Nat} {v : Value} {w : World} (hc : w.cell? ⟨h, 0, none⟩ = some v) : (method 184 51 (.pointer (some ⟨h, 0, none⟩)) "Len").run Try.prog w = .ok (43, v) w := hmeth 183 "Len" _ (by kernel_rfl) _ w v (hlv hc)
theorem mLess {h : Nat} {v : Value} {w : World} (hc : w.cell? ⟨h, 0, none⟩ = some v) : (method 184 51 (.pointer (some ⟨h, 0, none⟩)) "Less").run Try.prog w = .ok (44, v) w := hmeth 183 "Less" _ (by kernel_rfl) _ w v (hlv hc)
theorem mSwap {h : Nat} {v : Value} {w : World} (hc : w.cell? ⟨h, 0, none⟩ = some v) : (method 184 51 (.pointer (some ⟨h, 0, none⟩)) "Swap").run Try.prog w = .ok (46, v) w := hmeth 183 "Swap" _ (by kernel_rfl) _ w v (hlv hc)

set_option maxRecDepth 100000 in
set_option maxHeartbeats 1600000 in
theorem hpopm {w : World} {base h g cap : Nat} {nd : Nat → Int} {ld : Nat → Nat} {l : List Nat} (x : Hp w base h g cap nd ld l) (n : Nat) (hl : l.length = n + 1) (hn : n ≤ 100) :
    Calls Try.prog 52 #[.pointer (some ⟨h, 0, none⟩)] w fun e w' => e = .returned (.iface 57 (.agg #[.int .i64 (nd (l.getD n 0)), .int .i64 (ld (l.getD n 0) : Int)])) ∧ Kp (fun b => b = h ∨ b = g) w w' ∧ Hp w' base h g cap nd ld (l.take n) := by
  have cc := x.cn (j := n) (by omega)
  have HX : Hid (Hp w base h g cap nd ld l) := x
  obtain ⟨a, ha⟩ : ∃ a, a = nd (l.getD n 0) := ⟨_, rfl⟩
  obtain ⟨b, hb⟩ : ∃ b : Int, b = (ld (l.getD n 0) : Int) := ⟨_, rfl⟩
  rw [← ha, ← hb] at cc
  rw [← ha, ← hb]
  obtain ⟨c1, c2⟩ := cc
  have c0 := x.c0
  rw [hl] at c0
  have f0 : w.frozen? ⟨h, 0, none⟩ = false := x.lv.fz (by simp)
  have hcap : n + 1 ≤ cap := by
    obtain ⟨_, h2⟩ := x.o
    rcases h2 with ⟨h0, _⟩ | ⟨g', cap', cur, hv, hg, hh, hnn, hcap, hsz, htake⟩
    · cases h0
    · cases hv; omega
  have hw1 : wrap64 (((n + 1 : Nat) : Int) - 1) = (n : Int) := by unfold wrap64; omega
  have hhw : h < w.heap.size := x.lv.lt (by simp)
  have hgw : g < w.heap.size := x.gb.2
  have HF : Hid (∀ (A : Array Value), Kp (fun b => b = h ∨ b = g) w ((w.setCell ⟨h, 0, none⟩ (.slice (some ⟨g, 0, none⟩) n cap)).alloc (.cells A 57)) ∧ Hp ((w.setCell ⟨h, 0, none⟩ (.slice (some ⟨g, 0, none⟩) n cap)).alloc (.cells A 57)) base h g cap nd ld (l.take n)) := fun A => by
    have ks : Kp (fun b => b = h) w (w.setCell ⟨h, 0, none⟩ (.slice (some ⟨g, 0, none⟩) n cap)) := (Kp.refl (fun b => b = h) w).setCell (fun _ => rfl) _
    have ka : Kp (fun _ => False) (w.setCell ⟨h, 0, none⟩ (.slice (some ⟨g, 0, none⟩) n cap)) ((w.setCell ⟨h, 0, none⟩ (.slice (some ⟨g, 0, none⟩) n cap)).alloc (.cells A 57)) := (Kp.refl _ _).alloc _
    have hb := x.b
    have hlt : (l.take n).length = n := by rw [List.length_take]; omega
    refine ⟨(ks.mono (fun b _ e => Or.inl e)).trans ka (fun _ _ e => e.elim), Hp.keep0 ⟨?_, ?_, x.ne, x.b⟩ ka⟩
    · rw [hlt]
      exact x.lv.set1 0 (.slice (some ⟨g, 0, none⟩) n cap) (by simp)
    · rw [hlt, ← mflat_take]
      have h3 := own_sub (k := n) x.o (by omega)
      exact ownsRow_keep h3 ks (fun g0 e e2 => by have e' : some g = some g0 := e; injection e' with e'; exact x.ne (by omega))
  clear x ha hb hl
  go_enter Try.func52, Try.ntmps52
  go_wp2
  go_ret
  exact ⟨rfl, HF.out _⟩

theorem upF_succ (ld : Nat → Nat) (f : Nat) (l : List Nat) (j : Nat) : upF ld (f + 1) l j = if j = 0 then l else if ld (l.getD j 0) < ld (l.getD ((j - 1) / 2) 0) then upF ld f (swp l ((j - 1) / 2) j) ((j - 1) / 2) else l := rfl
theorem downF_succ (ld : Nat → Nat) (f : Nat) (l : List Nat) (i n : Nat) : downF ld (f + 1) l i n = if n ≤ 2 * i + 1 then l else if ld (l.getD (kid ld l i n) 0) < ld (l.getD i 0) then downF ld f (swp l i (kid ld l i n)) (kid ld l i n) n else l := rfl
theorem upF_fuel (ld : Nat → Nat) : ∀ f f' l j, j < f → j < f' → upF ld f l j = upF ld f' l j
  | 0, _, _, _, h, _ => absurd h (Nat.not_lt_zero _)
  | f + 1, 0, _, _, _, h => absurd h (Nat.not_lt_zero _)
  | f + 1, f' + 1, l, j, h, h' => by
    unfold upF
    by_cases e : j = 0
    · rw [if_pos e, if_pos e]
    · rw [if_neg e, if_neg e]
      by_cases e2 : ld (l.getD j 0) < ld (l.getD ((j - 1) / 2) 0)
      · rw [if_pos e2, if_pos e2]; exact upF_fuel ld f f' _ _ (by omega) (by omega)
      · rw [if_neg e2, if_neg e2]

set_option maxRecDepth 100000 in
set_option maxHeartbeats 1600000 in
theorem hup {w : World} {base h g cap : Nat} {nd : Nat → Int} {ld : Nat → Nat} {l : List Nat} (x : Hp w base h g cap nd ld l) (j : Nat) (hj : j < l.length) (hl : l.length ≤ 100) :
    Calls Try.prog 25 #[.iface 51 (.pointer (some ⟨h, 0, none⟩)), .int .i64 j] w fun e w' => e = .returned (.tuple #[]) ∧ Kp (fun b => base ≤ b) w w' ∧ Hp w' base h g cap nd ld (upF ld (j + 1) l j) := by
  have HX : Hid (Hp w base h g cap nd ld l) := x
  have HL : Hid (j < l.length ∧ l.length ≤ 100) := ⟨hj, hl⟩
  obtain ⟨r, hr⟩ : ∃ r, r = upF ld (j + 1) l j := ⟨_, rfl⟩
  rw [← hr]
  clear x hj hl
  go_enter Try.func25, Try.ntmps25
  go_wp2
  go_loopg [1] (j + 1) (fun gk jv wr => ∃ (i : Nat) (m : List Nat), i ≤ j ∧ gk = i + 1 ∧ jv = .int .i64 i ∧ Hid (Kp (fun b => base ≤ b) w wr) ∧ Hid (Hp wr base h g cap nd ld m) ∧ Hid (m.length = l.length ∧ r = upF ld (i + 1) m i))
  case atStart => exact ⟨j, l, Nat.le_refl _, rfl, rfl, Kp.refl _ _, HX, ⟨rfl, hr⟩⟩
  case round =>
    obtain ⟨i, m, hi, rfl, rfl, HK, HM, HR⟩ := hrel
    clear hr
    by_cases h0 : i = 0
    · subst h0
      have HRm : Hid (r = m) := HR.out.2
      go_wp2
      go_end0
      exact ⟨rfl, HK.out, by rw [HRm.out]; exact HM.out⟩
    · have HI : Hid (i < m.length ∧ (i - 1) / 2 < m.length ∧ m.length ≤ 100) := by show _ ∧ _; have h1 := HR.out.1; have h2 := HL.out; omega
      have hw1 : wrap64 ((i : Int) - 1) = ((i - 1 : Nat) : Int) := by have := HI.out; unfold wrap64; omega
      have hq : ((i - 1 : Nat) : Int).tdiv 2 = (((i - 1) / 2 : Nat) : Int) := by
        rw [Int.tdiv_eq_ediv_of_nonneg (by omega)]; omega
      obtain ⟨q, hqq⟩ : ∃ q, q = (i - 1) / 2 := ⟨_, rfl⟩
      rw [← hqq] at hq
      have hwq : wrap64 ((q : Int)) = (q : Int) := by have := HI.out; unfold wrap64; omega
      have hne : ¬ ((q : Int) = (i : Int)) := by omega
      have HQ : Hid (q = (i - 1) / 2) := hqq
      have hs1 := mLess HM.out.c0
      have HE : Hid (Calls _ _ _ wr _) := hless HM.out i q HI.out.1 (by rw [hqq]; exact HI.out.2.1)
      obtain ⟨d, hd⟩ : ∃ d, d = decide (ld (m.getD i 0) < ld (m.getD q 0)) := ⟨_, rfl⟩
      have HD : Hid (d = decide (ld (m.getD i 0) < ld (m.getD q 0))) := hd
      rw [← hd] at HE
      clear hd hqq
      go_wp2_with fail
      refine HE.out.mono ?_
      rintro e w1 ⟨rfl, k1⟩
      have HM1 : Hid (Hp w1 base h g cap nd ld m) := HM.out.keep0 k1
      have HK1 : Hid (Kp (fun b => base ≤ b) w w1) := HK.out.trans k1 (fun _ _ e => e.elim)
      clear HE k1 hs1
      cases d with
      | false =>
        have HRm : Hid (r = m) := by
          have h1 := HR.out.2
          have h2 : ¬ (ld (m.getD i 0) < ld (m.getD q 0)) := of_decide_eq_false HD.out.symm
          show r = m
          rw [h1, upF_succ, if_neg h0, ← HQ.out, if_neg h2]
        go_wp2
        go_end0
        exact ⟨rfl, HK1.out, by rw [HRm.out]; exact HM1.out⟩
      | true =>
        have hs2 := mSwap HM1.out.c0
        have HE2 : Hid (Calls _ _ _ w1 _) := hswap HM1.out q i (by rw [HQ.out]; exact HI.out.2.1) HI.out.1
        have HRn : Hid (r = upF ld i (swp m q i) q) := by
          have h1 := HR.out.2
          have h2 : ld (m.getD i 0) < ld (m.getD q 0) := of_decide_eq_true HD.out.symm
          show r = _
          rw [h1, upF_succ, if_neg h0, ← HQ.out, if_pos h2]
        go_wp2_with fail
        refine HE2.out.mono ?_
        rintro e w2 ⟨rfl, k2, h2⟩
        have HM2 : Hid (Hp w2 base h g cap nd ld (swp m q i)) := h2
        have HK2 : Hid (Kp (fun b => base ≤ b) w w2) := HK1.out.trans k2 (fun b _ e => by have := HM1.out.gb; omega)
        clear HE2 h2 k2 hs2
        go_wp2
        go_roundg (q + 1)
        case rel => exact ⟨q, swp m q i, by have := HQ.out; omega, rfl, rfl, HK2, HM2, ⟨by rw [swp_len]; exact HR.out.1, by rw [HRn.out]; exact upF_fuel ld _ _ _ _ (by have := HQ.out; omega) (by omega)⟩⟩
        case measure => have := HQ.out; omega
end Go.Proofs.Ytneobpdbfbcnmaa
