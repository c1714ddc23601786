/- Choose. -/
import Derived.Test.YtneobpdbfbcnmaaHj
namespace Go.Proofs.Ytneobpdbfbcnmaa
set_option linter.unusedVariables false
open Go.RowKit Go.Deep

/-- the members of a list, turned by a seed -/
def trn (zs : List Int) (seed : Int) : List Int := (List.range (rs zs).length).map (fun i : Nat => (rs zs).getD ((i + beg seed (rs zs).length) % (rs zs).length) 0)
theorem trn_len (zs : List Int) (seed : Int) : (trn zs seed).length = (rs zs).length := by unfold trn; simp
/-- what is left behind k pops -/
abbrev lft (zs : List Int) (seed : Int) (k : Nat) : List Nat := restF (ldz zs seed) (pushes (ldz zs seed) (rs zs).length) k
theorem lft_len (zs : List Int) (seed : Int) (k : Nat) : (lft zs seed k).length = (rs zs).length - k := by unfold lft; rw [restF_len, pushes_len]
theorem lft_pop (zs : List Int) (seed : Int) (k : Nat) (h : k < (rs zs).length) : ndz zs (popX (ldz zs seed) (lft zs seed k)) = (trn zs seed).getD k 0 ∧ k < (trn zs seed).length := by
  have h16 := rs_len zs
  have hb := beg_lt seed (c := (rs zs).length) (by omega)
  have h1 := heap_tells (rs zs).length (by omega) (beg seed (rs zs).length) hb k h
  have h2 : popX (ldz zs seed) (lft zs seed k) = (k + beg seed (rs zs).length) % (rs zs).length := h1
  refine ⟨?_, by rw [trn_len]; exact h⟩
  rw [h2]
  unfold ndz trn
  rw [List.getD_eq_getElem?_getD, List.getD_eq_getElem?_getD, List.getElem?_map, List.getElem?_range h]
  simp [List.getD_eq_getElem?_getD]

set_option maxRecDepth 100000 in
set_option maxHeartbeats 400000 in
theorem choose_arg (v : Value) (seed n : Int) (hn : ¬ (1 ≤ n ∧ n ≤ 16)) (w : World) :
    Calls Try.prog 8 #[v, .int .i64 seed, .int .i64 n] w fun e w' => e = .returned (.tuple #[.slice none 0 0, .int .i64 1]) ∧ w' = w := by
  by_cases h1 : n < 1
  · go_enter Try.func8, Try.ntmps8
    go_wp2
    go_ret2
    exact ⟨rfl, rfl⟩
  · have h2 : n > 16 := by omega
    go_enter Try.func8, Try.ntmps8
    go_wp2
    go_ret2
    exact ⟨rfl, rfl⟩

set_option maxRecDepth 100000 in
set_option maxHeartbeats 3200000 in
theorem choose_few (Z : Nat → Prop) (p : Option Addr) (cp : Nat) (zs : List Int) (seed n : Int) (hn : 1 ≤ n ∧ n ≤ 16) (hf : (trn zs seed).length < n) (w : World) (h : Fl w Z p (zs.map encI)) (hl : Hid (zs.length * 8 ≤ 140737488355328)) :
    Calls Try.prog 8 #[.slice p zs.length cp, .int .i64 seed, .int .i64 n] w fun e w' => e = .returned (.tuple #[.slice none 0 0, .int .i64 140]) ∧ Kp (fun _ => False) w w' := by
  have HE : Hid (Calls _ _ _ w _) := turned_ok Z p cp zs seed w h hl
  obtain ⟨L, hL⟩ : ∃ L, L = zs.length := ⟨_, rfl⟩
  rw [← hL] at HE ⊢
  rw [trn_len] at hf
  have hx1 : ¬ n < 1 := by omega
  have hx2 : ¬ n > 16 := by omega
  clear h hl hL
  go_enter Try.func8, Try.ntmps8
  go_wp2_with fail
  refine HE.out.mono ?_
  rintro e w1 ⟨hb, rfl, k1, hbb, g, cap, hg, base, hp⟩
  have h1 := mLeft (.pointer (some ⟨hb, 0, none⟩)) w1
  have HE1 : Hid (Calls _ _ _ w1 _) := qleft hp
  rw [pushes_len] at HE1
  obtain ⟨c, hc⟩ : ∃ c, c = (rs zs).length := ⟨_, rfl⟩
  rw [← hc] at HE1 hf
  clear HE hp hc
  go_wp2_with fail
  refine HE1.out.mono ?_
  rintro e w2 ⟨rfl, hw2⟩
  obtain rfl := hw2
  go_wp2
  go_ret2
  exact ⟨rfl, k1⟩

set_option maxRecDepth 100000 in
set_option maxHeartbeats 3200000 in
theorem choose_ok (Z : Nat → Prop) (p : Option Addr) (cp : Nat) (zs : List Int) (seed : Int) (n : Nat) (hn : 1 ≤ n ∧ n ≤ 16) (hf : n ≤ (trn zs seed).length) (w : World) (h : Fl w Z p (zs.map encI)) (hl : Hid (zs.length * 8 ≤ 140737488355328)) :
    Calls Try.prog 8 #[.slice p zs.length cp, .int .i64 seed, .int .i64 (n : Int)] w fun e w' => ∃ g, e = .returned (.tuple #[.slice (some ⟨g, 0, none⟩) n n, .int .i64 0]) ∧ Kp (fun _ => False) w w' ∧ w.heap.size ≤ g ∧ Lv w' g (((trn zs seed).take n).map encI) := by
  have HE : Hid (Calls _ _ _ w _) := turned_ok Z p cp zs seed w h hl
  obtain ⟨L, hL⟩ : ∃ L, L = zs.length := ⟨_, rfl⟩
  rw [← hL] at HE ⊢
  rw [trn_len] at hf
  have hx1 : ¬ ((n : Int) < 1) := by omega
  have hx2 : ¬ ((n : Int) > 16) := by omega
  have HN : Hid (1 ≤ n ∧ n ≤ 16 ∧ n ≤ (rs zs).length ∧ (rs zs).length ≤ 16) := ⟨hn.1, hn.2, hf, rs_len zs⟩
  obtain ⟨tn, htn⟩ : ∃ tn, tn = ((trn zs seed).take n).map encI := ⟨_, rfl⟩
  have HTn : Hid (tn = ((trn zs seed).take n).map encI) := htn
  rw [← htn]
  have hmk : ∀ w : World, (Instr.makeSlice 22 (.int .i64 (n : Int)) (.int .i64 (n : Int))).run Try.prog w = .ok (.slice (some ⟨w.heap.size, 0, none⟩) n n) (w.alloc (.cells (madeCells #[.int .i64 0] n) 3)) := fun w =>
    run_make_row' (P := Try.prog) 22 3 (.int .i64 0) 8 Try.underlying22 infoInt rfl .i64 .i64 n (by omega) (by omega) w
  obtain ⟨mc, hmc⟩ : ∃ mc, mc = madeCells #[.int .i64 0] n := ⟨_, rfl⟩
  have HMc : Hid (mc.toList.length = n) := by show _ = _; rw [hmc]; simp [madeCells]
  rw [← hmc] at hmk
  clear h hl hL hf hn htn hmc
  go_enter Try.func8, Try.ntmps8
  go_wp2_with fail
  refine HE.out.mono ?_
  rintro e w1 ⟨hb, rfl, k1, hbb, g, cap, hg, base, hp⟩
  have h1 := mLeft (.pointer (some ⟨hb, 0, none⟩)) w1
  have HE1 : Hid (Calls _ _ _ w1 _) := qleft hp
  rw [pushes_len] at HE1
  obtain ⟨c, hc⟩ : ∃ c, c = (rs zs).length := ⟨_, rfl⟩
  have HC : Hid (c = (rs zs).length) := hc
  rw [← hc] at HE1
  have hcn : ¬ ((c : Int) < (n : Int)) := by have := HN.out; omega
  have hcn2 : decide (c < n) = false := by have := HN.out; rw [decide_eq_false_iff_not]; omega
  have HP1 : Hid (Hp w1 base hb g cap (ndz zs) (ldz zs seed) (lft zs seed 0)) := hp
  have HK1 : Hid (Kp (fun _ => False) w w1 ∧ w.heap.size ≤ hb ∧ w.heap.size ≤ g) := ⟨k1, hbb, hg⟩
  clear HE hp hc k1 hbb hg
  go_wp2_with fail
  refine HE1.out.mono ?_
  rintro e w2 ⟨rfl, hw2⟩
  obtain rfl := hw2
  clear HE1
  go_wp2_with fail
  obtain ⟨wm, hwm⟩ : ∃ x, x = w2.alloc (.cells mc 3) := ⟨_, rfl⟩
  obtain ⟨m, hm⟩ : ∃ m, m = w2.heap.size := ⟨_, rfl⟩
  have km : Kp (fun _ => False) w2 wm := by rw [hwm]; exact (Kp.refl _ _).alloc _
  have HLm : Hid (Lv wm m mc.toList) := by rw [hwm, hm]; exact Lv.new w2 mc _
  have HPm : Hid (Hp wm base hb g cap (ndz zs) (ldz zs seed) (lft zs seed 0)) := HP1.out.keep0 km
  have HKm : Hid (Kp (fun _ => False) w wm) := HK1.out.1.trans km (fun _ _ e => e)
  have HG : Hid (w.heap.size ≤ m ∧ m ≠ hb ∧ m ≠ g ∧ w.heap.size ≤ hb ∧ w.heap.size ≤ g) := by
    show _ ∧ _
    have h3 := HP1.out.lv.lt (by simp)
    have h4 := HP1.out.gb.2
    have h5 := HK1.out
    have h6 := HK1.out.1.size
    omega
  rw [← hwm, ← hm]
  clear hwm hm km HP1 HK1 hcn hx1 hx2
  go_loopg [28] n (fun gk iv wr => ∃ (k : Nat) (cells : List Value), k ≤ n ∧ gk = n - k ∧ iv = .int .i64 k ∧ Hid (Kp (fun _ => False) w wr) ∧ Hid (Hp wr base hb g cap (ndz zs) (ldz zs seed) (lft zs seed k)) ∧ Hid (Lv wr m cells) ∧ Hid (cells.length = n ∧ cells.take k = ((trn zs seed).take k).map encI))
  case atStart => exact ⟨0, mc.toList, by omega, rfl, rfl, HKm, HPm, HLm, ⟨HMc.out, rfl⟩⟩
  case round =>
    obtain ⟨k, cells, hk, rfl, rfl, HK, HP, HLv, HCl⟩ := hrel
    by_cases hlt : (k : Int) < (n : Int)
    · have h1 := mTake (.pointer (some ⟨hb, 0, none⟩)) wr
      obtain ⟨hp1, hlt2⟩ := lft_pop zs seed k (by have := HN.out; omega)
      have HE1 : Hid (Calls _ _ _ wr _) := qtake HP.out (by rw [lft_len]; have := HN.out; omega)
      rw [hp1] at HE1
      obtain ⟨z, hz⟩ : ∃ z, z = (trn zs seed).getD k 0 := ⟨_, rfl⟩
      rw [← hz] at HE1
      have HT : Hid ((trn zs seed).take (k + 1) = (trn zs seed).take k ++ [z]) := by
        show _ = _
        have hz2 : (trn zs seed)[k]'hlt2 = z := by rw [hz, List.getD_eq_getElem?_getD, List.getElem?_eq_getElem hlt2]; rfl
        rw [List.take_succ_eq_append_getElem hlt2, hz2]
      have HW : Hid (wrap64 ((k : Int) + 1) = ((k + 1 : Nat) : Int)) := by show _ = _; have := HN.out; unfold wrap64; omega
      clear hp1 hlt2 hz
      go_wp2_with fail
      refine HE1.out.mono ?_
      rintro e w3 ⟨rfl, k3, hp3⟩
      have HP3 : Hid (Hp w3 base hb g cap (ndz zs) (ldz zs seed) (lft zs seed (k + 1))) := hp3
      have hl3 : Lv w3 m cells := HLv.out.keep k3 (by have := HG.out; omega)
      have hkc : k < cells.length := by have := HCl.out.1; omega
      have c3 : w3.cell? ⟨m, k, none⟩ = some cells[k] := hl3.cell (List.getElem?_eq_getElem hkc)
      have f3 : w3.frozen? ⟨m, k, none⟩ = false := hl3.fz hkc
      have ks : Kp (fun b => b = m) w3 (w3.setCell ⟨m, k, none⟩ (.int .i64 z)) := (Kp.refl (fun b => b = m) w3).setCell (fun _ => rfl) _
      have HK4 : Hid (Kp (fun _ => False) w (w3.setCell ⟨m, k, none⟩ (.int .i64 z))) := (HK.out.trans k3 (fun b hb e => by have := HG.out; omega)).trans ks (fun b hb e => by have := HG.out; omega)
      have HP4 : Hid (Hp (w3.setCell ⟨m, k, none⟩ (.int .i64 z)) base hb g cap (ndz zs) (ldz zs seed) (lft zs seed (k + 1))) := ⟨HP3.out.lv.keep ks (by have := HG.out; omega), ownsRow_keep HP3.out.o ks (fun g0 e e2 => by have e' : some g = some g0 := e; injection e' with e'; have := HG.out; omega), HP3.out.ne, HP3.out.b⟩
      have HL4 : Hid (Lv (w3.setCell ⟨m, k, none⟩ (.int .i64 z)) m (cells.set k (.int .i64 z))) := by rw [List.set_eq_take_append_cons_drop' hkc]; exact hl3.set1 k _ hkc
      have HC4 : Hid ((cells.set k (.int .i64 z)).length = n ∧ (cells.set k (.int .i64 z)).take (k + 1) = ((trn zs seed).take (k + 1)).map encI) := by
        refine ⟨by rw [List.length_set]; exact HCl.out.1, ?_⟩
        rw [HT.out, List.map_append, ← HCl.out.2, List.take_succ_eq_append_getElem (by rw [List.length_set]; exact hkc), List.getElem_set_self, List.take_set_of_le (Nat.le_refl _)]
        rfl
      obtain ⟨ov, hov⟩ : ∃ ov, ov = cells[k] := ⟨_, rfl⟩
      rw [← hov] at c3
      clear HE1 k3 hp3 hl3 ks hov h1
      go_wp2
      go_roundg (n - (k + 1))
      case rel => exact ⟨k + 1, _, by omega, rfl, by rw [HW.out], HK4, HP4, HL4, HC4⟩
      case measure => omega
    · obtain rfl : k = n := by omega
      have HFin : Hid (Lv wr m tn) := by
        have h3 := HLv.out
        have h4 := HCl.out.2
        rw [List.take_of_length_le (by have := HCl.out.1; omega), ← HTn.out] at h4
        rw [← h4]; exact h3
      go_wp2
      go_ret2
      exact ⟨m, rfl, HK.out, by have := HG.out; omega, HFin.out⟩
end Go.Proofs.Ytneobpdbfbcnmaa
