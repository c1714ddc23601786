/- A shelf's record in memory: subject, stays, sectors. -/
import Derived.Test.YtippipeebkkghaaGreatDoorId
namespace Go.Proofs.YtippipeebkkghaaGreatDoor
set_option linter.unusedVariables false
set_option linter.unusedSimpArgs false
open Go.RowKit Go.Deep

theorem szTh : (Tryz.prog.info? 120).map (·.size) = some 3 := by kernel_rfl
theorem dsTh : ∃ d, Tryz.prog.underlying 120 = some d ∧ d.isRow = true := ⟨_, Tryz.underlying120, rfl⟩
theorem szRec : (Tryz.prog.info? 122).map (·.size) = some 5 := by kernel_rfl
theorem dsRec : ∃ d, Tryz.prog.underlying 122 = some d ∧ d.isRow = true := ⟨_, Tryz.underlying122, rfl⟩

set_option maxRecDepth 100000 in
theorem stays_ok (r : Rc) (p : Option Addr) (cp : Nat) (w : World) :
    Calls Tryz.prog 99 #[rcV r p cp] w fun e w' => e = .returned (.bool (staysS r)) ∧ Kp (fun _ => False) w w' := by
  obtain ⟨k, n, i, e, b⟩ := r
  obtain ⟨B, hB⟩ : ∃ B, B = b.length := ⟨_, rfl⟩
  show Calls Tryz.prog 99 #[.agg #[.int .i64 (k : Int), .int .i64 (n : Int), .int .i64 (i : Int), .int .i64 (e : Int), .slice p b.length cp]] w fun e9 w' => e9 = .returned (.bool (decide (k ≠ 2) && (decide (k ≠ 3) || decide (0 < e)))) ∧ Kp (fun _ => False) w w'
  rw [← hB]
  clear hB
  have HK : Hid (Kp (fun _ => False) w (w.alloc (.cells #[.int .i64 (k : Int), .int .i64 (n : Int), .int .i64 (i : Int), .int .i64 (e : Int), .slice p B cp] 122))) := (Kp.refl _ _).alloc _
  obtain ⟨v, hv⟩ : ∃ v, v = (decide (k ≠ 2) && (decide (k ≠ 3) || decide (0 < e))) := ⟨_, rfl⟩
  rw [← hv]
  by_cases h2 : k = 2
  · have hk2 : ((k : Int) != 2) = false := by rw [h2]; rfl
    have hv' : v = false := by rw [hv, h2]; rfl
    subst hv'
    clear hv h2
    go_enter Tryz.func99, Tryz.ntmps99
    go_wp2
    go_ret
    exact ⟨rfl, HK.out⟩
  · have hk2 : ((k : Int) != 2) = true := by simp; omega
    by_cases h3 : k = 3
    · have hk3 : ((k : Int) != 3) = false := by rw [h3]; rfl
      have hv' : v = decide (0 < (e : Int)) := by
        rw [hv, h3]
        by_cases h : 0 < e
        · rw [decide_eq_true h, decide_eq_true (show 0 < (e : Int) by omega)]; rfl
        · rw [decide_eq_false h, decide_eq_false (show ¬ 0 < (e : Int) by omega)]; rfl
      subst hv'
      clear hv h2 h3
      go_enter Tryz.func99, Tryz.ntmps99
      go_wp2
      go_ret
      exact ⟨by simp, HK.out⟩
    · have hk3 : ((k : Int) != 3) = true := by simp; omega
      have hv' : v = true := by rw [hv, decide_eq_true h2, decide_eq_true h3]; rfl
      subst hv'
      clear hv h2 h3
      go_enter Tryz.func99, Tryz.ntmps99
      go_wp2
      go_ret
      exact ⟨rfl, HK.out⟩

set_option maxRecDepth 100000 in
set_option maxHeartbeats 1600000 in
theorem subject_ok (r : Rc) (p : Option Addr) (cp : Nat) (w : World) :
    Calls Tryz.prog 100 #[rcV r p cp] w fun e w' => e = .returned (pv3 (subS r)) ∧ Kp (fun _ => False) w w' := by
  obtain ⟨k, n, i, e, b⟩ := r
  obtain ⟨B, hB⟩ : ∃ B, B = b.length := ⟨_, rfl⟩
  show Calls Tryz.prog 100 #[.agg #[.int .i64 (k : Int), .int .i64 (n : Int), .int .i64 (i : Int), .int .i64 (e : Int), .slice p b.length cp]] w fun e9 w' => e9 = .returned (.agg #[.int .i64 ((if k = 2 then 1 else k : Nat) : Int), .int .i64 (n : Int), .int .i64 (i : Int)]) ∧ Kp (fun _ => False) w w'
  rw [← hB]
  clear hB
  obtain ⟨k2, hk2⟩ : ∃ k2, k2 = (if k = 2 then 1 else k : Nat) := ⟨_, rfl⟩
  rw [← hk2]
  have HZ : Hid (k2 = (if k = 2 then 1 else k : Nat)) := hk2
  obtain ⟨r0, hr0⟩ : ∃ r0, r0 = w.heap.size := ⟨_, rfl⟩
  obtain ⟨w1, hw1⟩ : ∃ y, y = w.alloc (.cells #[.int .i64 (k : Int), .int .i64 (n : Int), .int .i64 (i : Int), .int .i64 (e : Int), .slice p B cp] 122) := ⟨_, rfl⟩
  obtain ⟨g, hg⟩ : ∃ g, g = w1.heap.size := ⟨_, rfl⟩
  obtain ⟨w0, hw0⟩ : ∃ y, y = w1.alloc (.cells #[.int .i64 0, .int .i64 0, .int .i64 0] 120) := ⟨_, rfl⟩
  have HK0 : Hid (Kp (fun _ => False) w w0) := by rw [hw0, hw1]; exact ((Kp.refl _ _).alloc _).alloc _
  have HL0 : Hid (Lv w0 r0 [.int .i64 (k : Int), .int .i64 (n : Int), .int .i64 (i : Int), .int .i64 (e : Int), .slice p B cp]) := by
    have h1 : Lv w1 r0 [.int .i64 (k : Int), .int .i64 (n : Int), .int .i64 (i : Int), .int .i64 (e : Int), .slice p B cp] := by rw [hw1, hr0]; exact Lv.new _ _ _
    rw [hw0]
    exact h1.keep ((Kp.refl (fun _ => False) _).alloc _) id
  have HG0 : Hid (Lv w0 g [.int .i64 0, .int .i64 0, .int .i64 0]) := by rw [hw0, hg]; exact Lv.new _ _ _
  have HR0 : Hid (w.heap.size < g) := by
    have : w.heap.size < w1.heap.size := by rw [hw1]; simp
    show _ < _
    omega
  clear hk2
  go_enter Tryz.func100, Tryz.ntmps100
  go_upto_region 1 with fail
  have hg' : g = w.heap.size + 1 := by rw [hg, hw1]; simp
  rw [← hw1, ← hg', ← hw0, ← hr0]
  clear hw0 hr0 hg hw1 hg'
  have c0 := HL0.out.cell (j := 0) rfl
  have c1 := HL0.out.cell (j := 1) rfl
  have c2 := HL0.out.cell (j := 2) rfl
  by_cases h2 : k = 2
  · have hk2 : ((k : Int) == 2) = true := by rw [h2]; rfl
    have hz : k2 = 1 := by rw [HZ.out, if_pos h2]
    subst hz
    clear h2
    have d0 := HG0.out.cell (j := 0) rfl
    have d1 := HG0.out.cell (j := 1) rfl
    have d2 := HG0.out.cell (j := 2) rfl
    have f0 := HG0.out.fz (j := 0) (by decide)
    have f1 := HG0.out.fz (j := 1) (by decide)
    have f2 := HG0.out.fz (j := 2) (by decide)
    obtain ⟨w5, hw5⟩ : ∃ y, y = ((w0.setCell ⟨g, 0, none⟩ (.int .i64 1)).setCell ⟨g, 1, none⟩ (.int .i64 (n : Int))).setCell ⟨g, 2, none⟩ (.int .i64 (i : Int)) := ⟨_, rfl⟩
    have hl5 : Lv w5 g [.int .i64 1, .int .i64 (n : Int), .int .i64 (i : Int)] := by
      rw [hw5]
      have a1 : Lv (w0.setCell ⟨g, 0, none⟩ (.int .i64 1)) g [.int .i64 1, .int .i64 0, .int .i64 0] := HG0.out.set1 0 (.int .i64 1) (by decide)
      have a2 : Lv ((w0.setCell ⟨g, 0, none⟩ (.int .i64 1)).setCell ⟨g, 1, none⟩ (.int .i64 (n : Int))) g [.int .i64 1, .int .i64 (n : Int), .int .i64 0] := a1.set1 1 (.int .i64 (n : Int)) (by simp)
      exact a2.set1 2 (.int .i64 (i : Int)) (by simp)
    have k5 : Kp (fun b => b = g) w0 w5 := by rw [hw5]; exact (kp_set.trans kp_set (fun _ _ e => e)).trans kp_set (fun _ _ e => e)
    have HF : Hid (Kp (fun _ => False) w w5) := HK0.out.trans k5 (fun b9 hb9 e9 => by have := HR0.out; omega)
    have hld := hl5.load dsTh szTh rfl
    have HLd : Hid ((loadVar 120 ⟨g, 0, none⟩).run Tryz.prog w5 = .ok (.agg #[.int .i64 1, .int .i64 (n : Int), .int .i64 (i : Int)]) w5) := hld
    clear hl5 k5 hld
    go_wp2
    rw [← hw5]
    refine bodyPost_ret (res_cell Tryz.results100 _ _ g _ rfl HLd.out) rfl ?_
    exact ⟨rfl, HF.out⟩
  · have hk2 : ((k : Int) == 2) = false := by rw [beq_eq_false_iff_ne]; omega
    have hz : k2 = k := by rw [HZ.out, if_neg h2]
    subst hz
    clear h2
    have d0 := HG0.out.cell (j := 0) rfl
    have d1 := HG0.out.cell (j := 1) rfl
    have d2 := HG0.out.cell (j := 2) rfl
    have f0 := HG0.out.fz (j := 0) (by decide)
    have f1 := HG0.out.fz (j := 1) (by decide)
    have f2 := HG0.out.fz (j := 2) (by decide)
    obtain ⟨w5, hw5⟩ : ∃ y, y = ((w0.setCell ⟨g, 0, none⟩ (.int .i64 (k2 : Int))).setCell ⟨g, 1, none⟩ (.int .i64 (n : Int))).setCell ⟨g, 2, none⟩ (.int .i64 (i : Int)) := ⟨_, rfl⟩
    have hl5 : Lv w5 g [.int .i64 (k2 : Int), .int .i64 (n : Int), .int .i64 (i : Int)] := by
      rw [hw5]
      have a1 : Lv (w0.setCell ⟨g, 0, none⟩ (.int .i64 (k2 : Int))) g [.int .i64 (k2 : Int), .int .i64 0, .int .i64 0] := HG0.out.set1 0 (.int .i64 (k2 : Int)) (by decide)
      have a2 : Lv ((w0.setCell ⟨g, 0, none⟩ (.int .i64 (k2 : Int))).setCell ⟨g, 1, none⟩ (.int .i64 (n : Int))) g [.int .i64 (k2 : Int), .int .i64 (n : Int), .int .i64 0] := a1.set1 1 (.int .i64 (n : Int)) (by simp)
      exact a2.set1 2 (.int .i64 (i : Int)) (by simp)
    have k5 : Kp (fun b => b = g) w0 w5 := by rw [hw5]; exact (kp_set.trans kp_set (fun _ _ e => e)).trans kp_set (fun _ _ e => e)
    have HF : Hid (Kp (fun _ => False) w w5) := HK0.out.trans k5 (fun b9 hb9 e9 => by have := HR0.out; omega)
    have hld := hl5.load dsTh szTh rfl
    have HLd : Hid ((loadVar 120 ⟨g, 0, none⟩).run Tryz.prog w5 = .ok (.agg #[.int .i64 (k2 : Int), .int .i64 (n : Int), .int .i64 (i : Int)]) w5) := hld
    clear hl5 k5 hld
    go_wp2
    rw [← hw5]
    refine bodyPost_ret (res_cell Tryz.results100 _ _ g _ rfl HLd.out) rfl ?_
    exact ⟨rfl, HF.out⟩

set_option maxRecDepth 100000 in
set_option maxHeartbeats 1600000 in
theorem recsec_ok (r : Rc) (p : Option Addr) (cp : Nat) (w : World) (hr : Rb w p r.b.length r.b) (hg : GoodR r) :
    Calls Tryz.prog 81 #[rcV r p cp] w fun e w' => e = .returned (.int .i64 (secS r : Int)) ∧ Kp (fun _ => False) w w' := by
  obtain ⟨S, hS⟩ : ∃ S, S = secS r := ⟨_, rfl⟩
  obtain ⟨L, hL⟩ : ∃ L, L = (wrS r).length := ⟨_, rfl⟩
  have hLn : L ≤ 2008 := by rw [hL]; have := wrS_len hg; omega
  have HS : Hid ((wrap64 (wrap64 ((L : Int) + 40) - 1)).tdiv 40 = (S : Int) ∧ S ≤ 51) := by
    have h3 : wrap64 ((L : Int) + 40) = (L : Int) + 40 := (by unfold wrap64; omega)
    have h4 : wrap64 ((L : Int) + 40 - 1) = (L : Int) + 40 - 1 := (by unfold wrap64; omega)
    have h5 : S = (L + 39) / 40 := by rw [hS, hL]; rfl
    show _ ∧ _
    rw [h3, h4, Int.tdiv_eq_ediv_of_nonneg (by omega)]
    omega
  have HSw : Hid (wrap64 (S : Int) = (S : Int)) := (by have := HS.out.2; show wrap64 _ = _; unfold wrap64; omega)
  rw [← hS]
  have HLx : Hid (L = (wrS r).length ∧ L ≤ 2008 ∧ ∀ x ∈ wrS r, x < 256) := ⟨hL, hLn, wrS_b hg⟩
  obtain ⟨xa, hxa⟩ : ∃ xa : Array Value, xa = #[.int .i64 (r.k : Int), .int .i64 (r.n : Int), .int .i64 (r.i : Int), .int .i64 (r.e : Int), .slice p r.b.length cp] := ⟨_, rfl⟩
  obtain ⟨r0, hr0⟩ : ∃ r0, r0 = w.heap.size := ⟨_, rfl⟩
  obtain ⟨w0, hw0⟩ : ∃ y, y = w.alloc (.cells xa 122) := ⟨_, rfl⟩
  have HK0 : Hid (Kp (fun _ => False) w w0) := by rw [hw0]; exact (Kp.refl _ _).alloc _
  have HL0 : Hid (Lv w0 r0 xa.toList) := by rw [hw0, hr0]; exact Lv.new _ _ _
  have HX : Hid (xa.toList.length = 5) := by rw [hxa]; rfl
  have HC : Hid (Calls Tryz.prog 87 #[.agg xa] w0 fun e w' => ∃ v, e = .returned v ∧ Kp (fun _ => False) w0 w' ∧ Ow w' w0.heap.size v (wrS r)) := by
    rw [hxa]
    exact written_ok r p cp w0 (hr.keep0 HK0.out) hg
  show Calls Tryz.prog 81 #[.agg #[.int .i64 (r.k : Int), .int .i64 (r.n : Int), .int .i64 (r.i : Int), .int .i64 (r.e : Int), .slice p r.b.length cp]] w _
  rw [← hxa]
  clear hr hg hS hL hLn hxa
  go_enter Tryz.func81, Tryz.ntmps81
  go_upto_region 1 with fail
  rw [← hw0, ← hr0]
  clear hw0 hr0
  go_wp2_with (first
    | (refine wpList_load_all rfl 122 _ rfl 5 r0 xa.toList rfl HL0.out dsRec szRec HX.out ?_)
    | (go_at_call 87; refine HC.out.mono ?_; rintro e9 w9 ⟨v9, rfl, k9, o9⟩; obtain ⟨q9, c9, rfl, _⟩ := o9.rb HLx.out.2.2; rw [← HLx.out.1]; have HF : Hid (Kp (fun _ => False) w w9) := HK0.out.trans k9 (fun _ _ e => e); clear k9 o9))
  go_ret
  exact ⟨by rw [HS.out.1, HSw.out]; rfl, HF.out⟩
end Go.Proofs.YtippipeebkkghaaGreatDoor
