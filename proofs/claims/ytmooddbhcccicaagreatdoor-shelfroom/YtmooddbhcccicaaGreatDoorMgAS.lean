/- Texts of this proof, joined: Id, Ie, If. -/
import Derived.Test.YtmooddbhcccicaaGreatDoorMgAR
import Derived.Laws.OwnMore
import Derived.Deep.DeepCutAuto
/- A shelf's record in memory: written, sectors, subject, stays. -/
namespace Go.Proofs.YtmooddbhcccicaaGreatDoor
set_option linter.unusedVariables false
set_option linter.unusedSimpArgs false
open Go.RowKit Go.Deep

/-- a record in memory, its bytes at p -/
abbrev rcV (r : Rc) (p : Option Addr) (cp : Nat) : Value := .agg #[.int .i64 (r.k : Int), .int .i64 (r.n : Int), .int .i64 (r.i : Int), .int .i64 (r.e : Int), .slice p r.b.length cp]
theorem own_oneI (w : World) (x : Nat) (hx : x < 256) : Ow (w.alloc (.cells #[.int .u8 (x : Int)] 5)) w.heap.size (.slice (some ⟨w.heap.size, 0, none⟩) 1 1) [x] := by
  exact World.ownsRow_lit w #[.int .u8 (x : Int)] 1 (Nat.le_refl _) (by unfold maxLen; omega) rfl
theorem numB_len9 {n : Nat} (h : n < 9223372036854775808) : (numB n).length ≤ 9 := by
  have h8 := numW8 h
  have : (numB n).length = numW n + 1 := by show (_ :: digs _ _).length = _; rw [List.length_cons, digs_len]
  omega
set_option maxRecDepth 100000 in
set_option maxHeartbeats 1600000 in
theorem written_ok (r : Rc) (p : Option Addr) (cp : Nat) (w : World) (hr : Rb w p r.b.length r.b) (hg : GoodR r) :
    Calls Tryz.prog 86 #[rcV r p cp] w fun e w' => ∃ v, e = .returned v ∧ Kp (fun _ => False) w w' ∧ Ow w' w.heap.size v (wrS r) := by
  obtain ⟨k, n, i, e, b⟩ := r
  have hk1 := hg.k1
  have hn1 := hg.n1
  have hi1 := hg.i1
  have he1 := hg.e1
  have hbl := hg.bl
  dsimp only at hk1 hn1 hi1 he1 hbl hr
  obtain ⟨B, hB⟩ : ∃ B, B = b.length := ⟨_, rfl⟩
  have HR : Hid (Rb w p B b ∧ B ≤ 1980) := ⟨by rw [hB]; exact hr, by omega⟩
  have HB : Hid (B = b.length) := hB
  have HNu : Hid (n < 9223372036854775808 ∧ i < 9223372036854775808 ∧ e < 9223372036854775808 ∧ k ≤ 4) := ⟨by omega, by omega, by omega, by omega⟩
  have hu8 : IntKind.u8.wrap (k : Int) = (k : Int) := by
    simp [IntKind.wrap, IntKind.bits, IntKind.signed]
    omega
  obtain ⟨Z, hZ⟩ : ∃ Z, Z = wrS ⟨k, n, i, e, b⟩ := ⟨_, rfl⟩
  have HZ : Hid (Z = [k] ++ numB n ++ (if k = 4 then [] else numB i) ++ (if k = 3 then numB e else []) ++ b) := hZ
  rw [← hZ]
  show Calls Tryz.prog 86 #[.agg #[.int .i64 (k : Int), .int .i64 (n : Int), .int .i64 (i : Int), .int .i64 (e : Int), .slice p b.length cp]] w _
  rw [← hB]
  obtain ⟨r0, hr0⟩ : ∃ r0, r0 = w.heap.size := ⟨_, rfl⟩
  obtain ⟨w0, hw0⟩ : ∃ y, y = w.alloc (.cells #[.int .i64 (k : Int), .int .i64 (n : Int), .int .i64 (i : Int), .int .i64 (e : Int), .slice p B cp] 85) := ⟨_, rfl⟩
  have HK0 : Hid (Kp (fun _ => False) w w0) := by rw [hw0]; exact (Kp.refl _ _).alloc _
  have HL0 : Hid (Lv w0 r0 [.int .i64 (k : Int), .int .i64 (n : Int), .int .i64 (i : Int), .int .i64 (e : Int), .slice p B cp]) := by rw [hw0, hr0]; exact Lv.new _ _ _
  have HR0 : Hid (w.heap.size ≤ r0 ∧ r0 < w0.heap.size) := ⟨by omega, HL0.out.lt (by simp)⟩
  clear hr hg hk1 hn1 hi1 he1 hbl hB hZ
  go_enter Tryz.func86, Tryz.ntmps86
  go_upto_region 1 with fail
  rw [← hw0, ← hr0]
  clear hw0 hr0
  have c0 := HL0.out.cell (j := 0) rfl
  have e1 : Ow (w0.alloc (.cells #[.int .u8 (k : Int)] 5)) w0.heap.size (.slice (some ⟨w0.heap.size, 0, none⟩) 1 1) [k] := own_oneI w0 k (by have := HNu.out; omega)
  obtain ⟨w1, hw1⟩ : ∃ y, y = w0.alloc (.cells #[.int .u8 (k : Int)] 5) := ⟨_, rfl⟩
  rw [← hw1] at e1
  have k01 : Kp (fun _ => False) w0 w1 := by rw [hw1]; exact (Kp.refl _ _).alloc _
  obtain ⟨v1, hv1⟩ : ∃ v : Value, v = .slice (some ⟨w0.heap.size, 0, none⟩) 1 1 := ⟨_, rfl⟩
  rw [← hv1] at e1
  have HO1 : Hid (Ow w1 w0.heap.size v1 [k]) := e1
  have HK1 : Hid (Kp (fun _ => False) w w1 ∧ Kp (fun _ => False) w0 w1) := ⟨HK0.out.trans k01 (fun _ _ e => e), k01⟩
  have HC1 : Hid (Calls _ _ _ w1 _) := appNum_ok w0.heap.size v1 [k] n w1 e1 k01.size HNu.out.1 (by simp)
  have hk4 : k = 4 ∨ k ≠ 4 := by omega
  go_upto_region 2 with fail
  rw [← hw1, ← hv1]
  clear hw1 e1 k01 hv1 c0 hu8
  have c1 : w1.cell? ⟨r0, 1, none⟩ = some (.int .i64 (n : Int)) := (HL0.out.keep HK1.out.2 id).cell (j := 1) rfl
  go_wp2_with fail
  refine HC1.out.mono ?_
  rintro e9 w2 ⟨v2, rfl, a2⟩
  have HO2 : Hid (Ow w2 w0.heap.size v2 ([k] ++ numB n)) := a2.o
  have HK2 : Hid (Kp (fun _ => False) w w2 ∧ Kp (fun _ => False) w0 w2) := by
    have h1 : Kp (fun _ => False) w0 w2 := HK1.out.2.trans a2.k (fun b9 hb9 e9 => by have := (ownBlock_lt HO1.out e9).1; omega)
    exact ⟨HK0.out.trans h1 (fun _ _ e => e), h1⟩
  have HL2 : Hid (Lv w2 r0 [.int .i64 (k : Int), .int .i64 (n : Int), .int .i64 (i : Int), .int .i64 (e : Int), .slice p B cp]) := HL0.out.keep HK2.out.2 id
  clear a2 HC1 c1
  have c0 := HL2.out.cell (j := 0) rfl
  by_cases h4 : k = 4
  · have hk4 : ((k : Int) != 4) = false := by rw [h4]; rfl
    have hk3 : ((k : Int) == 3) = false := by rw [h4]; rfl
    have HZ4 : Hid (k = 4) := h4
    clear h4
    go_upto_region 7 with fail
    have HLX := HL2
    have HKX := HK2
    have HOX := HO2
    have c4 : w2.cell? ⟨r0, 4, none⟩ = some (.slice p B cp) := HLX.out.cell (j := 4) rfl
    have HXl : Hid (([k] ++ numB n).length + B ≤ 140737488355328 ∧ w0.heap.size ≤ w2.heap.size) := ⟨by
      have h1 := numB_len9 HNu.out.1
      have h2 := numB_len9 HNu.out.2.1
      have h3 := numB_len9 HNu.out.2.2.1
      have h4 := HR.out.2
      simp only [List.length_append, List.length_cons, List.length_nil]
      omega, HKX.out.2.size⟩
    go_wp2_with (at_builtin; refine wpList_append_bytes _ rfl _ _ rfl w0.heap.size v2 ([k] ++ numB n) rfl HOX.out p B cp b rfl (HR.out.1.keep0 HKX.out.1) HXl.out.1 HXl.out.2 ?_; intro v9 w9 o9 k9 b9)
    have HF : Hid (Kp (fun _ => False) w w9 ∧ Ow w9 w.heap.size v9 Z) := ⟨HKX.out.1.trans k9 (fun b9 hb9 e9 => by have := (ownBlock_lt HOX.out e9).1; have := HR0.out; omega), by
      rw [HZ.out, if_pos HZ4.out, if_neg (by have := HZ4.out; omega), List.append_nil, List.append_nil]
      exact ownsRow_base o9 (by have := HR0.out; omega)⟩
    clear o9 k9 b9
    go_ret
    exact ⟨v9, rfl, HF.out⟩
  · have hk4 : ((k : Int) != 4) = true := by simp; omega
    have HZ4 : Hid (¬ k = 4) := h4
    have HC2 : Hid (Calls _ _ _ w2 _) := appNum_ok w0.heap.size v2 ([k] ++ numB n) i w2 HO2.out HK2.out.2.size HNu.out.2.1 (by have := numB_len9 HNu.out.1; simp; omega)
    have c2 := HL2.out.cell (j := 2) rfl
    clear h4
    go_wp2_with fail
    refine HC2.out.mono ?_
    rintro e9 w3 ⟨v3, rfl, a3⟩
    have HO3 : Hid (Ow w3 w0.heap.size v3 ([k] ++ numB n ++ numB i)) := a3.o
    have HK3 : Hid (Kp (fun _ => False) w w3 ∧ Kp (fun _ => False) w0 w3) := by
      have h1 : Kp (fun _ => False) w0 w3 := HK2.out.2.trans a3.k (fun b9 hb9 e9 => by have := (ownBlock_lt HO2.out e9).1; omega)
      exact ⟨HK0.out.trans h1 (fun _ _ e => e), h1⟩
    have HL3 : Hid (Lv w3 r0 [.int .i64 (k : Int), .int .i64 (n : Int), .int .i64 (i : Int), .int .i64 (e : Int), .slice p B cp]) := HL0.out.keep HK3.out.2 id
    clear a3 HC2 c2 c0
    have c0 := HL3.out.cell (j := 0) rfl
    by_cases h3 : k = 3
    · have hk3 : ((k : Int) == 3) = true := by rw [h3]; rfl
      have HZ3 : Hid (k = 3) := h3
      have HC3 : Hid (Calls _ _ _ w3 _) := appNum_ok w0.heap.size v3 ([k] ++ numB n ++ numB i) e w3 HO3.out HK3.out.2.size HNu.out.2.2.1 (by have := numB_len9 HNu.out.1; have := numB_len9 HNu.out.2.1; simp; omega)
      have c3 := HL3.out.cell (j := 3) rfl
      clear h3
      go_wp2_with fail
      refine HC3.out.mono ?_
      rintro e9 w4 ⟨v4, rfl, a4⟩
      have HOX : Hid (Ow w4 w0.heap.size v4 ([k] ++ numB n ++ numB i ++ numB e)) := a4.o
      have HKX : Hid (Kp (fun _ => False) w w4 ∧ Kp (fun _ => False) w0 w4) := by
        have h1 : Kp (fun _ => False) w0 w4 := HK3.out.2.trans a4.k (fun b9 hb9 e9 => by have := (ownBlock_lt HO3.out e9).1; omega)
        exact ⟨HK0.out.trans h1 (fun _ _ e => e), h1⟩
      have HLX : Hid (Lv w4 r0 [.int .i64 (k : Int), .int .i64 (n : Int), .int .i64 (i : Int), .int .i64 (e : Int), .slice p B cp]) := HL0.out.keep HKX.out.2 id
      clear a4 HC3 c3 c0
      have c4 : w4.cell? ⟨r0, 4, none⟩ = some (.slice p B cp) := HLX.out.cell (j := 4) rfl
      have HXl : Hid (([k] ++ numB n ++ numB i ++ numB e).length + B ≤ 140737488355328 ∧ w0.heap.size ≤ w4.heap.size) := ⟨by
        have h1 := numB_len9 HNu.out.1
        have h2 := numB_len9 HNu.out.2.1
        have h3 := numB_len9 HNu.out.2.2.1
        have h4 := HR.out.2
        simp only [List.length_append, List.length_cons, List.length_nil]
        omega, HKX.out.2.size⟩
      go_wp2_with (at_builtin; refine wpList_append_bytes _ rfl _ _ rfl w0.heap.size v4 ([k] ++ numB n ++ numB i ++ numB e) rfl HOX.out p B cp b rfl (HR.out.1.keep0 HKX.out.1) HXl.out.1 HXl.out.2 ?_; intro v9 w9 o9 k9 b9)
      have HF : Hid (Kp (fun _ => False) w w9 ∧ Ow w9 w.heap.size v9 Z) := ⟨HKX.out.1.trans k9 (fun b9 hb9 e9 => by have := (ownBlock_lt HOX.out e9).1; have := HR0.out; omega), by
        rw [HZ.out, if_neg HZ4.out, if_pos HZ3.out]
        exact ownsRow_base o9 (by have := HR0.out; omega)⟩
      clear o9 k9 b9
      go_ret
      exact ⟨v9, rfl, HF.out⟩
    · have hk3 : ((k : Int) == 3) = false := by rw [beq_eq_false_iff_ne]; omega
      have HZ3 : Hid (¬ k = 3) := h3
      clear h3
      go_upto_region 7 with fail
      have HLX := HL3
      have HKX := HK3
      have HOX := HO3
      have c4 : w3.cell? ⟨r0, 4, none⟩ = some (.slice p B cp) := HLX.out.cell (j := 4) rfl
      have HXl : Hid (([k] ++ numB n ++ numB i).length + B ≤ 140737488355328 ∧ w0.heap.size ≤ w3.heap.size) := ⟨by
        have h1 := numB_len9 HNu.out.1
        have h2 := numB_len9 HNu.out.2.1
        have h3 := numB_len9 HNu.out.2.2.1
        have h4 := HR.out.2
        simp only [List.length_append, List.length_cons, List.length_nil]
        omega, HKX.out.2.size⟩
      go_wp2_with (at_builtin; refine wpList_append_bytes _ rfl _ _ rfl w0.heap.size v3 ([k] ++ numB n ++ numB i) rfl HOX.out p B cp b rfl (HR.out.1.keep0 HKX.out.1) HXl.out.1 HXl.out.2 ?_; intro v9 w9 o9 k9 b9)
      have HF : Hid (Kp (fun _ => False) w w9 ∧ Ow w9 w.heap.size v9 Z) := ⟨HKX.out.1.trans k9 (fun b9 hb9 e9 => by have := (ownBlock_lt HOX.out e9).1; have := HR0.out; omega), by
        rw [HZ.out, if_neg HZ4.out, if_neg HZ3.out, List.append_nil]
        exact ownsRow_base o9 (by have := HR0.out; omega)⟩
      clear o9 k9 b9
      go_ret
      exact ⟨v9, rfl, HF.out⟩
end Go.Proofs.YtmooddbhcccicaaGreatDoor

/- A shelf's record in memory: subject, stays, sectors. -/
namespace Go.Proofs.YtmooddbhcccicaaGreatDoor
set_option linter.unusedVariables false
set_option linter.unusedSimpArgs false
open Go.RowKit Go.Deep

theorem szTh : (Tryz.prog.info? 83).map (·.size) = some 3 := by kernel_rfl
theorem dsTh : ∃ d, Tryz.prog.underlying 83 = some d ∧ d.isRow = true := ⟨_, Tryz.underlying83, rfl⟩
theorem szRec : (Tryz.prog.info? 85).map (·.size) = some 5 := by kernel_rfl
theorem dsRec : ∃ d, Tryz.prog.underlying 85 = some d ∧ d.isRow = true := ⟨_, Tryz.underlying85, rfl⟩

set_option maxRecDepth 100000 in
theorem stays_ok (r : Rc) (p : Option Addr) (cp : Nat) (w : World) :
    Calls Tryz.prog 124 #[rcV r p cp] w fun e w' => e = .returned (.bool (staysS r)) ∧ Kp (fun _ => False) w w' := by
  obtain ⟨k, n, i, e, b⟩ := r
  obtain ⟨B, hB⟩ : ∃ B, B = b.length := ⟨_, rfl⟩
  show Calls Tryz.prog 124 #[.agg #[.int .i64 (k : Int), .int .i64 (n : Int), .int .i64 (i : Int), .int .i64 (e : Int), .slice p b.length cp]] w fun e9 w' => e9 = .returned (.bool (decide (k ≠ 2) && (decide (k ≠ 3) || decide (0 < e)))) ∧ Kp (fun _ => False) w w'
  rw [← hB]
  clear hB
  have HK : Hid (Kp (fun _ => False) w (w.alloc (.cells #[.int .i64 (k : Int), .int .i64 (n : Int), .int .i64 (i : Int), .int .i64 (e : Int), .slice p B cp] 85))) := (Kp.refl _ _).alloc _
  obtain ⟨v, hv⟩ : ∃ v, v = (decide (k ≠ 2) && (decide (k ≠ 3) || decide (0 < e))) := ⟨_, rfl⟩
  rw [← hv]
  by_cases h2 : k = 2
  · have hk2 : ((k : Int) != 2) = false := by rw [h2]; rfl
    have hv' : v = false := by rw [hv, h2]; rfl
    subst hv'
    clear hv h2
    go_enter Tryz.func124, Tryz.ntmps124
    go_wp2
    go_ret
    exact ⟨rfl, HK.out⟩
  · have hk2 : ((k : Int) != 2) = true := by simp; omega
    by_cases h3 : k = 3
    · have hk3 : ((k : Int) != 3) = false := by rw [h3]; rfl
      have hv' : v = decide (0 < (e : Int)) := by
        rw [hv, h3]
        by_cases h : 0 < e
        · rw [decide_eq_true h, decide_eq_true (show 0 < (e : Int) by omega)]; rfl
        · rw [decide_eq_false h, decide_eq_false (show ¬ 0 < (e : Int) by omega)]; rfl
      subst hv'
      clear hv h2 h3
      go_enter Tryz.func124, Tryz.ntmps124
      go_wp2
      go_ret
      exact ⟨by simp, HK.out⟩
    · have hk3 : ((k : Int) != 3) = true := by simp; omega
      have hv' : v = true := by rw [hv, decide_eq_true h2, decide_eq_true h3]; rfl
      subst hv'
      clear hv h2 h3
      go_enter Tryz.func124, Tryz.ntmps124
      go_wp2
      go_ret
      exact ⟨rfl, HK.out⟩

set_option maxRecDepth 100000 in
set_option maxHeartbeats 1600000 in
theorem subject_ok (r : Rc) (p : Option Addr) (cp : Nat) (w : World) :
    Calls Tryz.prog 123 #[rcV r p cp] w fun e w' => e = .returned (pv3 (subS r)) ∧ Kp (fun _ => False) w w' := by
  obtain ⟨k, n, i, e, b⟩ := r
  obtain ⟨B, hB⟩ : ∃ B, B = b.length := ⟨_, rfl⟩
  show Calls Tryz.prog 123 #[.agg #[.int .i64 (k : Int), .int .i64 (n : Int), .int .i64 (i : Int), .int .i64 (e : Int), .slice p b.length cp]] w fun e9 w' => e9 = .returned (.agg #[.int .i64 ((if k = 2 then 1 else k : Nat) : Int), .int .i64 (n : Int), .int .i64 (i : Int)]) ∧ Kp (fun _ => False) w w'
  rw [← hB]
  clear hB
  obtain ⟨k2, hk2⟩ : ∃ k2, k2 = (if k = 2 then 1 else k : Nat) := ⟨_, rfl⟩
  rw [← hk2]
  have HZ : Hid (k2 = (if k = 2 then 1 else k : Nat)) := hk2
  obtain ⟨r0, hr0⟩ : ∃ r0, r0 = w.heap.size := ⟨_, rfl⟩
  obtain ⟨w1, hw1⟩ : ∃ y, y = w.alloc (.cells #[.int .i64 (k : Int), .int .i64 (n : Int), .int .i64 (i : Int), .int .i64 (e : Int), .slice p B cp] 85) := ⟨_, rfl⟩
  obtain ⟨g, hg⟩ : ∃ g, g = w1.heap.size := ⟨_, rfl⟩
  obtain ⟨w0, hw0⟩ : ∃ y, y = w1.alloc (.cells #[.int .i64 0, .int .i64 0, .int .i64 0] 83) := ⟨_, rfl⟩
  have HK0 : Hid (Kp (fun _ => False) w w0) := by rw [hw0, hw1]; exact ((Kp.refl _ _).alloc _).alloc _
  have HL0 : Hid (Lv w0 r0 [.int .i64 (k : Int), .int .i64 (n : Int), .int .i64 (i : Int), .int .i64 (e : Int), .slice p B cp]) := by
    have h1 : Lv w1 r0 [.int .i64 (k : Int), .int .i64 (n : Int), .int .i64 (i : Int), .int .i64 (e : Int), .slice p B cp] := by rw [hw1, hr0]; exact Lv.new _ _ _
    rw [hw0]
    exact h1.keep ((Kp.refl (fun _ => False) _).alloc _) id
  have HG0 : Hid (Lv w0 g [.int .i64 0, .int .i64 0, .int .i64 0]) := by rw [hw0, hg]; exact Lv.new _ _ _
  have HR0 : Hid (w.heap.size < g) := by
    have : w.heap.size < w1.heap.size := by rw [hw1]; simp
    show _ < _
    omega
  clear hk2
  go_enter Tryz.func123, Tryz.ntmps123
  go_upto_region 1 with fail
  have hg' : g = w.heap.size + 1 := by rw [hg, hw1]; simp
  rw [← hw1, ← hg', ← hw0, ← hr0]
  clear hw0 hr0 hg hw1 hg'
  have c0 := HL0.out.cell (j := 0) rfl
  have c1 := HL0.out.cell (j := 1) rfl
  have c2 := HL0.out.cell (j := 2) rfl
  by_cases h2 : k = 2
  · have hk2 : ((k : Int) == 2) = true := by rw [h2]; rfl
    have hz : k2 = 1 := by rw [HZ.out, if_pos h2]
    subst hz
    clear h2
    have d0 := HG0.out.cell (j := 0) rfl
    have d1 := HG0.out.cell (j := 1) rfl
    have d2 := HG0.out.cell (j := 2) rfl
    have f0 := HG0.out.fz (j := 0) (by decide)
    have f1 := HG0.out.fz (j := 1) (by decide)
    have f2 := HG0.out.fz (j := 2) (by decide)
    obtain ⟨w5, hw5⟩ : ∃ y, y = ((w0.setCell ⟨g, 0, none⟩ (.int .i64 1)).setCell ⟨g, 1, none⟩ (.int .i64 (n : Int))).setCell ⟨g, 2, none⟩ (.int .i64 (i : Int)) := ⟨_, rfl⟩
    have hl5 : Lv w5 g [.int .i64 1, .int .i64 (n : Int), .int .i64 (i : Int)] := by
      rw [hw5]
      have a1 : Lv (w0.setCell ⟨g, 0, none⟩ (.int .i64 1)) g [.int .i64 1, .int .i64 0, .int .i64 0] := HG0.out.set1 0 (.int .i64 1) (by decide)
      have a2 : Lv ((w0.setCell ⟨g, 0, none⟩ (.int .i64 1)).setCell ⟨g, 1, none⟩ (.int .i64 (n : Int))) g [.int .i64 1, .int .i64 (n : Int), .int .i64 0] := a1.set1 1 (.int .i64 (n : Int)) (by simp)
      exact a2.set1 2 (.int .i64 (i : Int)) (by simp)
    have k5 : Kp (fun b => b = g) w0 w5 := by rw [hw5]; exact (kp_set.trans kp_set (fun _ _ e => e)).trans kp_set (fun _ _ e => e)
    have HF : Hid (Kp (fun _ => False) w w5) := HK0.out.trans k5 (fun b9 hb9 e9 => by have := HR0.out; omega)
    have hld := hl5.load dsTh szTh rfl
    have HLd : Hid ((loadVar 83 ⟨g, 0, none⟩).run Tryz.prog w5 = .ok (.agg #[.int .i64 1, .int .i64 (n : Int), .int .i64 (i : Int)]) w5) := hld
    clear hl5 k5 hld
    go_wp2
    rw [← hw5]
    refine bodyPost_ret (res_cell Tryz.results123 _ _ g _ rfl HLd.out) rfl ?_
    exact ⟨rfl, HF.out⟩
  · have hk2 : ((k : Int) == 2) = false := by rw [beq_eq_false_iff_ne]; omega
    have hz : k2 = k := by rw [HZ.out, if_neg h2]
    subst hz
    clear h2
    have d0 := HG0.out.cell (j := 0) rfl
    have d1 := HG0.out.cell (j := 1) rfl
    have d2 := HG0.out.cell (j := 2) rfl
    have f0 := HG0.out.fz (j := 0) (by decide)
    have f1 := HG0.out.fz (j := 1) (by decide)
    have f2 := HG0.out.fz (j := 2) (by decide)
    obtain ⟨w5, hw5⟩ : ∃ y, y = ((w0.setCell ⟨g, 0, none⟩ (.int .i64 (k2 : Int))).setCell ⟨g, 1, none⟩ (.int .i64 (n : Int))).setCell ⟨g, 2, none⟩ (.int .i64 (i : Int)) := ⟨_, rfl⟩
    have hl5 : Lv w5 g [.int .i64 (k2 : Int), .int .i64 (n : Int), .int .i64 (i : Int)] := by
      rw [hw5]
      have a1 : Lv (w0.setCell ⟨g, 0, none⟩ (.int .i64 (k2 : Int))) g [.int .i64 (k2 : Int), .int .i64 0, .int .i64 0] := HG0.out.set1 0 (.int .i64 (k2 : Int)) (by decide)
      have a2 : Lv ((w0.setCell ⟨g, 0, none⟩ (.int .i64 (k2 : Int))).setCell ⟨g, 1, none⟩ (.int .i64 (n : Int))) g [.int .i64 (k2 : Int), .int .i64 (n : Int), .int .i64 0] := a1.set1 1 (.int .i64 (n : Int)) (by simp)
      exact a2.set1 2 (.int .i64 (i : Int)) (by simp)
    have k5 : Kp (fun b => b = g) w0 w5 := by rw [hw5]; exact (kp_set.trans kp_set (fun _ _ e => e)).trans kp_set (fun _ _ e => e)
    have HF : Hid (Kp (fun _ => False) w w5) := HK0.out.trans k5 (fun b9 hb9 e9 => by have := HR0.out; omega)
    have hld := hl5.load dsTh szTh rfl
    have HLd : Hid ((loadVar 83 ⟨g, 0, none⟩).run Tryz.prog w5 = .ok (.agg #[.int .i64 (k2 : Int), .int .i64 (n : Int), .int .i64 (i : Int)]) w5) := hld
    clear hl5 k5 hld
    go_wp2
    rw [← hw5]
    refine bodyPost_ret (res_cell Tryz.results123 _ _ g _ rfl HLd.out) rfl ?_
    exact ⟨rfl, HF.out⟩

set_option maxRecDepth 100000 in
set_option maxHeartbeats 1600000 in
theorem recsec_ok (r : Rc) (p : Option Addr) (cp : Nat) (w : World) (hr : Rb w p r.b.length r.b) (hg : GoodR r) :
    Calls Tryz.prog 80 #[rcV r p cp] w fun e w' => e = .returned (.int .i64 (secS r : Int)) ∧ Kp (fun _ => False) w w' := by
  obtain ⟨S, hS⟩ : ∃ S, S = secS r := ⟨_, rfl⟩
  obtain ⟨L, hL⟩ : ∃ L, L = (wrS r).length := ⟨_, rfl⟩
  have hLn : L ≤ 2008 := by rw [hL]; have := wrS_len hg; omega
  have HS : Hid ((wrap64 (wrap64 ((L : Int) + 40) - 1)).tdiv 40 = (S : Int) ∧ S ≤ 51) := by
    have h3 : wrap64 ((L : Int) + 40) = (L : Int) + 40 := (by unfold wrap64; omega)
    have h4 : wrap64 ((L : Int) + 40 - 1) = (L : Int) + 40 - 1 := (by unfold wrap64; omega)
    have h5 : S = (L + 39) / 40 := by rw [hS, hL]; rfl
    show _ ∧ _
    rw [h3, h4, Int.tdiv_eq_ediv_of_nonneg (by omega)]
    omega
  have HSw : Hid (wrap64 (S : Int) = (S : Int)) := (by have := HS.out.2; show wrap64 _ = _; unfold wrap64; omega)
  rw [← hS]
  have HLx : Hid (L = (wrS r).length ∧ L ≤ 2008 ∧ ∀ x ∈ wrS r, x < 256) := ⟨hL, hLn, wrS_b hg⟩
  obtain ⟨xa, hxa⟩ : ∃ xa : Array Value, xa = #[.int .i64 (r.k : Int), .int .i64 (r.n : Int), .int .i64 (r.i : Int), .int .i64 (r.e : Int), .slice p r.b.length cp] := ⟨_, rfl⟩
  obtain ⟨r0, hr0⟩ : ∃ r0, r0 = w.heap.size := ⟨_, rfl⟩
  obtain ⟨w0, hw0⟩ : ∃ y, y = w.alloc (.cells xa 85) := ⟨_, rfl⟩
  have HK0 : Hid (Kp (fun _ => False) w w0) := by rw [hw0]; exact (Kp.refl _ _).alloc _
  have HL0 : Hid (Lv w0 r0 xa.toList) := by rw [hw0, hr0]; exact Lv.new _ _ _
  have HX : Hid (xa.toList.length = 5) := by rw [hxa]; rfl
  have HC : Hid (Calls Tryz.prog 86 #[.agg xa] w0 fun e w' => ∃ v, e = .returned v ∧ Kp (fun _ => False) w0 w' ∧ Ow w' w0.heap.size v (wrS r)) := by
    rw [hxa]
    exact written_ok r p cp w0 (hr.keep0 HK0.out) hg
  show Calls Tryz.prog 80 #[.agg #[.int .i64 (r.k : Int), .int .i64 (r.n : Int), .int .i64 (r.i : Int), .int .i64 (r.e : Int), .slice p r.b.length cp]] w _
  rw [← hxa]
  clear hr hg hS hL hLn hxa
  go_enter Tryz.func80, Tryz.ntmps80
  go_upto_region 1 with fail
  rw [← hw0, ← hr0]
  clear hw0 hr0
  go_wp2_with (first
    | (refine wpList_load_all rfl 85 _ rfl 5 r0 xa.toList rfl HL0.out dsRec szRec HX.out ?_)
    | (go_at_call 86; refine HC.out.mono ?_; rintro e9 w9 ⟨v9, rfl, k9, o9⟩; obtain ⟨q9, c9, rfl, _⟩ := o9.rb HLx.out.2.2; rw [← HLx.out.1]; have HF : Hid (Kp (fun _ => False) w w9) := HK0.out.trans k9 (fun _ _ e => e); clear k9 o9))
  go_ret
  exact ⟨by rw [HS.out.1, HSw.out]; rfl, HF.out⟩
end Go.Proofs.YtmooddbhcccicaaGreatDoor

/- A shelf's stock in memory: behind. -/
namespace Go.Proofs.YtmooddbhcccicaaGreatDoor
set_option linter.unusedVariables false
set_option linter.unusedSimpArgs false
open Go.RowKit Go.Deep

abbrev zRec : Value := .agg #[.int .i64 0, .int .i64 0, .int .i64 0, .int .i64 0, .slice none 0 0]
set_option maxRecDepth 100000 in
theorem zeroRec : ∀ w, (zeroValue 85).run Tryz.prog w = .ok zRec w := fun w => by kernel_rfl
/-- a stock at block sh (behind its log at g): its map is mp, its records' bytes lie in blocks of Z -/
structure Sk (w : World) (Z : Nat → Prop) (sh mp g : Nat) (h : List Rc) : Prop where
  l : Lv w sh [.pointer (some ⟨g, 0, none⟩), .map (some mp), .int .i64 (stS h).2]
  m : ∃ c T, c ≤ h.length ∧ Px3 w mp c T ∧ ∀ x, wf3 x → ((stS h).1 x = none → T x = none) ∧ ∀ o, (stS h).1 x = some o → ∃ p cp, T x = some (rcV o p cp) ∧ Rb w p o.b.length o.b ∧ ∀ a, p = some a → Z a.block
  g : ∀ r ∈ h, GoodR r
  n : h.length ≤ 1000
theorem Sk.keep {S Z : Nat → Prop} {w w' : World} {sh mp g : Nat} {h : List Rc} (x : Sk w Z sh mp g h) (k : Kp S w w') (h1 : ¬ S sh) (h2 : ¬ S mp) (h3 : ∀ b, Z b → ¬ S b) : Sk w' Z sh mp g h := by
  obtain ⟨c, T, a1, a2, a3⟩ := x.m
  refine ⟨x.l.keep k h1, ⟨c, T, a1, a2.keep k h2, fun y hy => ⟨(a3 y hy).1, fun o ho => ?_⟩⟩, x.g, x.n⟩
  obtain ⟨p, cp, b1, b2, b3⟩ := (a3 y hy).2 o ho
  exact ⟨p, cp, b1, b2.keep k (fun a ha _ => h3 _ (b3 a ha)), b3⟩
theorem kp_new {w z : World} {g i : Nat} {v : Value} (k : Kp (fun _ => False) w z) (h : w.heap.size ≤ g) : Kp (fun _ => False) w (z.setCell ⟨g, i, none⟩ v) := k.setCell (fun e => absurd e (Nat.not_lt.2 h)) v
theorem stS_bd {h : List Rc} (hg : ∀ r ∈ h, GoodR r) (hn : h.length ≤ 1000) : -50000 ≤ (stS h).2 ∧ (stS h).2 ≤ 50000 ∧ ∀ x o, (stS h).1 x = some o → o ∈ h := by
  have h1 := stS_ge h (fun r hr => (secS_le (hg r hr)).2)
  have h2 : ∀ l : List Rc, (∀ r ∈ l, GoodR r) → (totW (l.map wrS) : Int) ≤ 50 * (l.length : Int) := by
    intro l
    induction l with
    | nil => intro _; exact Int.le_refl _
    | cons a l ih =>
      intro ha
      have h3 := ih (fun r hr => ha r (List.mem_cons_of_mem _ hr))
      have h4 := (secS_le (ha a (List.mem_cons_self ..))).2
      have h5 : totW ((a :: l).map wrS) = secS a + totW (l.map wrS) := rfl
      rw [h5, List.length_cons]
      omega
  have h6 := h2 h hg
  have h7 := stS_le h
  exact ⟨by omega, by omega, h1.2⟩

theorem lv_set5 {z : World} {x : Nat} {y0 y1 y2 y3 y4 : Value} (hl : Lv z x [y0, y1, y2, y3, y4]) (v0 v1 v2 v3 v4 : Value) : Lv (((((z.setCell ⟨x, 0, none⟩ v0).setCell ⟨x, 1, none⟩ v1).setCell ⟨x, 2, none⟩ v2).setCell ⟨x, 3, none⟩ v3).setCell ⟨x, 4, none⟩ v4) x [v0, v1, v2, v3, v4] := by
  have a0 := hl.set1 0 v0 (by simp)
  have a1 := a0.set1 1 v1 (by simp)
  have a2 := a1.set1 2 v2 (by simp)
  have a3 := a2.set1 3 v3 (by simp)
  exact a3.set1 4 v4 (by simp)

set_option maxRecDepth 100000 in
set_option maxHeartbeats 3200000 in
theorem behind_ok {w : World} {Z : Nat → Prop} {sh mp g : Nat} {h : List Rc} (x : Sk w Z sh mp g h) (r : Rc) (p : Option Addr) (cp : Nat) (hr : Rb w p r.b.length r.b) (hg : GoodR r) :
    Calls Tryz.prog 81 #[.pointer (some ⟨sh, 1, none⟩), rcV r p cp] w fun e w' => e = .returned (.int .i64 (behS (stS h).1 (stS h).2 r)) ∧ Kp (fun _ => False) w w' := by
  obtain ⟨t, ht⟩ : ∃ t, t = (stS h).2 := ⟨_, rfl⟩
  obtain ⟨r0, hr0⟩ : ∃ r0, r0 = w.heap.size := ⟨_, rfl⟩
  obtain ⟨w0, hw0⟩ : ∃ y, y = w.alloc (.cells #[.int .i64 (r.k : Int), .int .i64 (r.n : Int), .int .i64 (r.i : Int), .int .i64 (r.e : Int), .slice p r.b.length cp] 85) := ⟨_, rfl⟩
  have HK0 : Hid (Kp (fun _ => False) w w0) := by rw [hw0]; exact (Kp.refl _ _).alloc _
  have HL0 : Hid (Lv w0 r0 [.int .i64 (r.k : Int), .int .i64 (r.n : Int), .int .i64 (r.i : Int), .int .i64 (r.e : Int), .slice p r.b.length cp]) := by rw [hw0, hr0]; exact Lv.new _ _ _
  have hbd := stS_bd x.g x.n
  have hsr := secS_le hg
  have HB : Hid (-50000 ≤ t ∧ t ≤ 50000 ∧ secS r ≤ 50) := ⟨by omega, by omega, hsr.2⟩
  have HSt : Hid (∀ u, Calls Tryz.prog 124 #[.agg #[.int .i64 (r.k : Int), .int .i64 (r.n : Int), .int .i64 (r.i : Int), .int .i64 (r.e : Int), .slice p r.b.length cp]] u fun e w' => e = .returned (.bool (staysS r)) ∧ Kp (fun _ => False) u w') := fun u => stays_ok r p cp u
  have HSu : Hid (∀ u, Calls Tryz.prog 123 #[.agg #[.int .i64 (r.k : Int), .int .i64 (r.n : Int), .int .i64 (r.i : Int), .int .i64 (r.e : Int), .slice p r.b.length cp]] u fun e w' => e = .returned (pv3 (subS r)) ∧ Kp (fun _ => False) u w') := fun u => subject_ok r p cp u
  have HSr : Hid (∀ u, Kp (fun _ => False) w0 u → Calls Tryz.prog 80 #[.agg #[.int .i64 (r.k : Int), .int .i64 (r.n : Int), .int .i64 (r.i : Int), .int .i64 (r.e : Int), .slice p r.b.length cp]] u fun e w' => e = .returned (.int .i64 (secS r : Int)) ∧ Kp (fun _ => False) u w') := fun u k => recsec_ok r p cp u ((hr.keep0 HK0.out).keep0 k) hg
  have x0 := x.keep HK0.out (fun e => e) (fun e => e) (fun _ _ e => e)
  have HCl : Hid (Lv w0 sh [.pointer (some ⟨g, 0, none⟩), .map (some mp), .int .i64 t]) := by rw [ht]; exact x0.l
  obtain ⟨c, T, hc1, hc2, hc3⟩ := x0.m
  have hwf := subS_wf hg
  obtain ⟨sub, hsub⟩ : ∃ sub, sub = pv3 (subS r) := ⟨_, rfl⟩
  have HLk : Hid (∀ z, Kp (fun _ => False) w0 z → (Instr.lookup 88 (.map (some mp)) sub true).run Tryz.prog z = .ok (.tuple #[(T (subS r)).getD zRec, .bool (T (subS r)).isSome]) z) := fun z k => by
    rw [hsub]
    exact look_px3_ok Tryz.underlying88 zeroRec (hc2.keep k id) hwf
  rw [← hsub] at HSu
  have hlb : Hid (∀ o, (stS h).1 (subS r) = some o → secS o ≤ 50 ∧ ∃ p cp, T (subS r) = some (rcV o p cp) ∧ Rb w0 p o.b.length o.b ∧ GoodR o) := fun o ho => by
    obtain ⟨p2, cp2, b1, b2, b3⟩ := (hc3 _ hwf).2 o ho
    have := x.g o (hbd.2.2 _ _ ho)
    exact ⟨(secS_le this).2, p2, cp2, b1, b2, this⟩
  have hnb : Hid ((stS h).1 (subS r) = none → T (subS r) = none) := (hc3 _ hwf).1
  obtain ⟨M, hM⟩ : ∃ M, M = (stS h).1 := ⟨_, rfl⟩
  rw [← hM] at hlb hnb ⊢
  rw [← ht]
  show Calls Tryz.prog 81 #[.pointer (some ⟨sh, 1, none⟩), .agg #[.int .i64 (r.k : Int), .int .i64 (r.n : Int), .int .i64 (r.i : Int), .int .i64 (r.e : Int), .slice p r.b.length cp]] w _
  obtain ⟨z, hz⟩ : ∃ z, z = behS M t r := ⟨_, rfl⟩
  have HZ : Hid (z = behS M t r) := hz
  rw [← hz]
  clear x x0 hr hg ht hbd hsr hc1 hc2 hc3 hwf hsub hM hz
  go_enter Tryz.func81, Tryz.ntmps81
  go_upto_region 1 with fail
  rw [← hw0, ← hr0]
  clear hw0 hr0
  have c2 : w0.cell? ⟨sh, 2, none⟩ = some (.int .i64 t) := HCl.out.cell (j := 2) rfl
  go_upto_region 2 with fail
  have kd : Kp (fun _ => False) w0 w0.drew := (Kp.refl _ _).drew
  have HS2 : Hid (∀ z, Kp (fun _ => False) w0 z → Kp (fun _ => False) w0 z ∧ z.cell? ⟨sh, 1, none⟩ = some (.map (some mp)) ∧ z.cell? ⟨r0, 0, none⟩ = some (.int .i64 (r.k : Int)) ∧ z.cell? ⟨r0, 1, none⟩ = some (.int .i64 (r.n : Int)) ∧ z.cell? ⟨r0, 2, none⟩ = some (.int .i64 (r.i : Int)) ∧ z.cell? ⟨r0, 3, none⟩ = some (.int .i64 (r.e : Int)) ∧ z.cell? ⟨r0, 4, none⟩ = some (.slice p r.b.length cp)) := fun z k => ⟨k, k.cellv (HCl.out.cell (j := 1) rfl) id, k.cellv (HL0.out.cell (j := 0) rfl) id, k.cellv (HL0.out.cell (j := 1) rfl) id, k.cellv (HL0.out.cell (j := 2) rfl) id, k.cellv (HL0.out.cell (j := 3) rfl) id, k.cellv (HL0.out.cell (j := 4) rfl) id⟩
  have HTr : Hid (∀ u u' : World, Kp (fun _ => False) w0 u → Kp (fun _ => False) u u' → Kp (fun _ => False) w0 u') := fun u u' h1 h2 => h1.trans h2 (fun _ _ e => e)
  have HFi : Hid (∀ (z : World) (x : Nat) (v0 v1 v2 v3 v4 : Value), w0.heap.size ≤ x → Kp (fun _ => False) w0 z → Kp (fun _ => False) w0 (((((z.setCell ⟨x, 0, none⟩ v0).setCell ⟨x, 1, none⟩ v1).setCell ⟨x, 2, none⟩ v2).setCell ⟨x, 3, none⟩ v3).setCell ⟨x, 4, none⟩ v4)) := fun z x v0 v1 v2 v3 v4 hx kz => kp_new (kp_new (kp_new (kp_new (kp_new kz hx) hx) hx) hx) hx
  have HL5 : Hid (∀ (z : World) (x : Nat) (y0 y1 y2 y3 y4 v0 v1 v2 v3 v4 : Value), Lv z x [y0, y1, y2, y3, y4] → Lv (((((z.setCell ⟨x, 0, none⟩ v0).setCell ⟨x, 1, none⟩ v1).setCell ⟨x, 2, none⟩ v2).setCell ⟨x, 3, none⟩ v3).setCell ⟨x, 4, none⟩ v4) x [v0, v1, v2, v3, v4]) := fun z x y0 y1 y2 y3 y4 v0 v1 v2 v3 v4 hl => lv_set5 hl v0 v1 v2 v3 v4
  obtain ⟨a1, a2, a3, a4, qq, nn, cc, ok, HLk2, HM⟩ : ∃ (a1 a2 a3 a4 : Int) (qq : Option Addr) (nn cc : Nat) (ok : Bool), Hid (∀ z, Kp (fun _ => False) w0 z → (Instr.lookup 88 (.map (some mp)) sub true).run Tryz.prog z = .ok (.tuple #[.agg #[.int .i64 a1, .int .i64 a2, .int .i64 a3, .int .i64 a4, .slice qq nn cc], .bool ok]) z) ∧ Hid ((ok = false ∧ M (subS r) = none) ∨ (ok = true ∧ ∃ o, M (subS r) = some o ∧ a1 = (o.k : Int) ∧ a2 = (o.n : Int) ∧ a3 = (o.i : Int) ∧ a4 = (o.e : Int) ∧ nn = o.b.length ∧ secS o ≤ 50 ∧ Rb w0 qq o.b.length o.b ∧ GoodR o)) := by
    cases hMo : M (subS r) with
    | none => exact ⟨0, 0, 0, 0, none, 0, 0, false, fun z k => by have := HLk.out z k; rw [hnb.out hMo] at this; exact this, Or.inl ⟨rfl, rfl⟩⟩
    | some o =>
      obtain ⟨hso, p2, cp2, hT, hb2, hgo⟩ := hlb.out o hMo
      exact ⟨o.k, o.n, o.i, o.e, p2, o.b.length, cp2, true, fun z k => by have := HLk.out z k; rw [hT] at this; exact this, Or.inr ⟨rfl, o, rfl, rfl, rfl, rfl, rfl, rfl, hso, hb2, hgo⟩⟩
  clear HLk hnb hlb
  have HSl : Hid (∀ z, Kp (fun _ => False) w0 z → Kp (fun _ => False) w0 z ∧ z.cell? ⟨sh, 1, none⟩ = some (.map (some mp)) ∧ z.cell? ⟨r0, 0, none⟩ = some (.int .i64 (r.k : Int)) ∧ z.cell? ⟨r0, 1, none⟩ = some (.int .i64 (r.n : Int)) ∧ z.cell? ⟨r0, 2, none⟩ = some (.int .i64 (r.i : Int)) ∧ z.cell? ⟨r0, 3, none⟩ = some (.int .i64 (r.e : Int)) ∧ z.cell? ⟨r0, 4, none⟩ = some (.slice p r.b.length cp) ∧ (Instr.lookup 88 (.map (some mp)) sub true).run Tryz.prog z = .ok (.tuple #[.agg #[.int .i64 a1, .int .i64 a2, .int .i64 a3, .int .i64 a4, .slice qq nn cc], .bool ok]) z) := fun z k => by obtain ⟨q0, q1, q2, q3, q4, q5, q6⟩ := HS2.out z k; exact ⟨q0, q1, q2, q3, q4, q5, q6, HLk2.out z k⟩
  clear HS2 HLk2
  go_cut [6, 7] (fun v6 v7 wz => ∃ q, v6 = .pointer (some ⟨q, 0, none⟩) ∧ v7 = .bool ok ∧ w0.heap.size ≤ q ∧ Hid (Kp (fun _ => False) w0 wz) ∧ Hid (Lv wz q [.int .i64 a1, .int .i64 a2, .int .i64 a3, .int .i64 a4, .slice qq nn cc]))
  case first =>
    have kda : ∀ o : Obj, Kp (fun _ => False) w0 (w0.alloc o).drew := fun o => ((Kp.refl _ _).alloc o).drew
    go_region_held3 (fun z => Kp (fun _ => False) w0 z ∧ z.cell? ⟨sh, 1, none⟩ = some (.map (some mp)) ∧ z.cell? ⟨r0, 0, none⟩ = some (.int .i64 (r.k : Int)) ∧ z.cell? ⟨r0, 1, none⟩ = some (.int .i64 (r.n : Int)) ∧ z.cell? ⟨r0, 2, none⟩ = some (.int .i64 (r.i : Int)) ∧ z.cell? ⟨r0, 3, none⟩ = some (.int .i64 (r.e : Int)) ∧ z.cell? ⟨r0, 4, none⟩ = some (.slice p r.b.length cp) ∧ (Instr.lookup 88 (.map (some mp)) sub true).run Tryz.prog z = .ok (.tuple #[.agg #[.int .i64 a1, .int .i64 a2, .int .i64 a3, .int .i64 a4, .slice qq nn cc], .bool ok]) z)
      (first
        | exact HSl.out _ kd
        | exact HSl.out _ kw1
        | exact HSl.out _ (kda _)
        | exact HSl.out _ (kw1.alloc _)
        | exact HSl.out _ (HFi.out _ _ _ _ _ _ _ (Nat.le_refl _) kw1)
        | exact HSl.out _ (HFi.out _ _ _ _ _ _ _ kw1.size (kw1.alloc _)))
      (first
        | (go_at_call 123; refine (HSu.out _).mono ?_; rintro e9 w1 ⟨rfl, k1⟩; have kw1 : Kp (fun _ => False) w0 w1 := HTr.out _ _ kd k1)
        | (go_at_call 123; refine (HSu.out _).mono ?_; rintro e9 w1 ⟨rfl, k1⟩; have kw1 : Kp (fun _ => False) w0 w1 := HTr.out _ _ (kda _) k1; have l0 : Lv w1 w0.heap.size [.int .i64 0, .int .i64 0, .int .i64 0, .int .i64 0, .slice none 0 0] := ((Lv.new w0 _ _).keep (S := fun _ => False) ((Kp.refl _ _).drew) id).keep k1 id; have b0 := l0.cell (j := 0) rfl; have g0 := l0.fz (j := 0) (show 0 < 5 by decide); have b1 := l0.cell (j := 1) rfl; have g1 := l0.fz (j := 1) (show 1 < 5 by decide); have b2 := l0.cell (j := 2) rfl; have g2 := l0.fz (j := 2) (show 2 < 5 by decide); have b3 := l0.cell (j := 3) rfl; have g3 := l0.fz (j := 3) (show 3 < 5 by decide); have b4 := l0.cell (j := 4) rfl; have g4 := l0.fz (j := 4) (show 4 < 5 by decide)))
    all_goals
      go_simp
      go_wp2_with fail
      go_meet
      first
        | exact ⟨_, rfl, rfl, kw1.size, kw1.alloc _, Lv.new _ _ _⟩
        | exact ⟨_, rfl, rfl, Nat.le_refl _, HFi.out _ _ _ _ _ _ _ (Nat.le_refl _) kw1, HL5.out _ _ _ _ _ _ _ _ _ _ _ _ l0⟩
  case rest =>
    obtain ⟨q, rfl, rfl, hq, HKz, HLz⟩ := hcut
    clear HSl HTr HFi HL5 c2 kd hq
    rcases HM.out with ⟨rfl, hMo⟩ | ⟨rfl, o, hMo, rfl, rfl, rfl, rfl, rfl, hso, hb2, hgo⟩
    · clear HM
      -- region 5 and on, at world wc
      have HLs : Hid (Lv wc r0 [.int .i64 (r.k : Int), .int .i64 (r.n : Int), .int .i64 (r.i : Int), .int .i64 (r.e : Int), .slice p r.b.length cp]) := HL0.out.keep HKz.out id
      have HSt1 : Hid (Calls _ _ _ wc _) := HSt.out wc
      have y0 := HLs.out.cell (j := 0) rfl
      have y1 := HLs.out.cell (j := 1) rfl
      have y2 := HLs.out.cell (j := 2) rfl
      have y3 := HLs.out.cell (j := 3) rfl
      have y4 := HLs.out.cell (j := 4) rfl
      go_wp2_with fail
      refine HSt1.out.mono ?_
      rintro e9 wS ⟨rfl, kS⟩
      have HKs : Hid (Kp (fun _ => False) w0 wS) := HKz.out.trans kS (fun _ _ e => e)
      clear kS HSt1 y0 y1 y2 y3 y4
      cases hst : staysS r with
      | false =>
        have HE : Hid (z = t) := by
          show _ = _
          rw [HZ.out]
          unfold behS
          rw [hMo, hst]
          simp
        have HF : Hid (Kp (fun _ => False) w wS) := HK0.out.trans HKs.out (fun _ _ e => e)
        clear hst
        go_wp2_with fail
        go_ret
        exact ⟨by rw [HE.out]; rfl, HF.out⟩
      | true =>
        have HE : Hid (z = t + (secS r : Int)) := by
          show _ = _
          rw [HZ.out]
          unfold behS
          rw [hMo, hst]
          simp
        have HSr1 : Hid (Calls _ _ _ wS _) := HSr.out wS HKs.out
        have HLt : Hid (Lv wS r0 [.int .i64 (r.k : Int), .int .i64 (r.n : Int), .int .i64 (r.i : Int), .int .i64 (r.e : Int), .slice p r.b.length cp]) := HL0.out.keep HKs.out id
        have y0 := HLt.out.cell (j := 0) rfl
        have y1 := HLt.out.cell (j := 1) rfl
        have y2 := HLt.out.cell (j := 2) rfl
        have y3 := HLt.out.cell (j := 3) rfl
        have y4 := HLt.out.cell (j := 4) rfl
        clear hst
        go_wp2_with fail
        refine HSr1.out.mono ?_
        rintro e9 wT ⟨rfl, kT⟩
        have HF : Hid (Kp (fun _ => False) w wT) := (HK0.out.trans HKs.out (fun _ _ e => e)).trans kT (fun _ _ e => e)
        have HW : Hid (wrap64 (t + (secS r : Int)) = z) := by
          have h1 := HE.out
          have h2 := HB.out
          skip
          show wrap64 _ = _
          rw [← h1]
          have h3 : -200000 ≤ z ∧ z ≤ 200000 := by omega
          clear h1 h2 HE HB
          unfold wrap64
          omega
        clear kT HSr1 y0 y1 y2 y3 y4
        go_wp2_with fail
        go_ret
        exact ⟨by first | (rw [HW.out]; rfl) | rfl, HF.out⟩
    · clear HM
      have HSo : Hid (Calls Tryz.prog 80 #[.agg #[.int .i64 (o.k : Int), .int .i64 (o.n : Int), .int .i64 (o.i : Int), .int .i64 (o.e : Int), .slice qq o.b.length cc]] wc fun e w' => e = .returned (.int .i64 (secS o : Int)) ∧ Kp (fun _ => False) wc w') := recsec_ok o qq cc wc (hb2.keep0 HKz.out) hgo
      have hwo : wrap64 (t - (secS o : Int)) = t - (secS o : Int) := by
        have h2 := HB.out
        have h3 : -200000 ≤ t - (secS o : Int) ∧ t - (secS o : Int) ≤ 200000 := by omega
        clear h2 HB
        unfold wrap64
        omega
      have HSO9 : Hid (secS o ≤ 50) := hso
      have o0 := HLz.out.cell (j := 0) rfl
      have o1 := HLz.out.cell (j := 1) rfl
      have o2 := HLz.out.cell (j := 2) rfl
      have o3 := HLz.out.cell (j := 3) rfl
      have o4 := HLz.out.cell (j := 4) rfl
      clear hb2 hgo hso
      go_wp2_with fail
      refine HSo.out.mono ?_
      rintro e9 wo ⟨rfl, ko⟩
      have HKo : Hid (Kp (fun _ => False) w0 wo) := HKz.out.trans ko (fun _ _ e => e)
      clear ko o0 o1 o2 o3 o4 HSo HLz
      go_upto_region 5 with fail
      try rw [hwo]
      -- region 5 and on, at world wo
      have HLs : Hid (Lv wo r0 [.int .i64 (r.k : Int), .int .i64 (r.n : Int), .int .i64 (r.i : Int), .int .i64 (r.e : Int), .slice p r.b.length cp]) := HL0.out.keep HKo.out id
      have HSt1 : Hid (Calls _ _ _ wo _) := HSt.out wo
      have y0 := HLs.out.cell (j := 0) rfl
      have y1 := HLs.out.cell (j := 1) rfl
      have y2 := HLs.out.cell (j := 2) rfl
      have y3 := HLs.out.cell (j := 3) rfl
      have y4 := HLs.out.cell (j := 4) rfl
      go_wp2_with fail
      refine HSt1.out.mono ?_
      rintro e9 wS ⟨rfl, kS⟩
      have HKs : Hid (Kp (fun _ => False) w0 wS) := HKo.out.trans kS (fun _ _ e => e)
      clear kS HSt1 y0 y1 y2 y3 y4
      cases hst : staysS r with
      | false =>
        have HE : Hid (z = t - (secS o : Int)) := by
          show _ = _
          rw [HZ.out]
          unfold behS
          rw [hMo, hst]
          simp
        have HF : Hid (Kp (fun _ => False) w wS) := HK0.out.trans HKs.out (fun _ _ e => e)
        clear hst
        go_wp2_with fail
        go_ret
        exact ⟨by rw [HE.out]; rfl, HF.out⟩
      | true =>
        have HE : Hid (z = t - (secS o : Int) + (secS r : Int)) := by
          show _ = _
          rw [HZ.out]
          unfold behS
          rw [hMo, hst]
          simp
        have HSr1 : Hid (Calls _ _ _ wS _) := HSr.out wS HKs.out
        have HLt : Hid (Lv wS r0 [.int .i64 (r.k : Int), .int .i64 (r.n : Int), .int .i64 (r.i : Int), .int .i64 (r.e : Int), .slice p r.b.length cp]) := HL0.out.keep HKs.out id
        have y0 := HLt.out.cell (j := 0) rfl
        have y1 := HLt.out.cell (j := 1) rfl
        have y2 := HLt.out.cell (j := 2) rfl
        have y3 := HLt.out.cell (j := 3) rfl
        have y4 := HLt.out.cell (j := 4) rfl
        clear hst
        go_wp2_with fail
        refine HSr1.out.mono ?_
        rintro e9 wT ⟨rfl, kT⟩
        have HF : Hid (Kp (fun _ => False) w wT) := (HK0.out.trans HKs.out (fun _ _ e => e)).trans kT (fun _ _ e => e)
        have HW : Hid (wrap64 (t - (secS o : Int) + (secS r : Int)) = z) := by
          have h1 := HE.out
          have h2 := HB.out
          have h9 := HSO9.out
          show wrap64 _ = _
          rw [← h1]
          have h3 : -200000 ≤ z ∧ z ≤ 200000 := by omega
          clear h1 h2 HE HB
          unfold wrap64
          omega
        clear kT HSr1 y0 y1 y2 y3 y4
        go_wp2_with fail
        go_ret
        exact ⟨by first | (rw [HW.out]; rfl) | rfl, HF.out⟩
end Go.Proofs.YtmooddbhcccicaaGreatDoor
