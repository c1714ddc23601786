/- A shelf's record in memory: written, sectors, subject, stays. -/
import Derived.Test.YtippipeebkkghaaGreatDoorIc
import Derived.Laws.OwnMore
namespace Go.Proofs.YtippipeebkkghaaGreatDoor
set_option linter.unusedVariables false
set_option linter.unusedSimpArgs false
open Go.RowKit Go.Deep

/-- a record in memory, its bytes at p -/
abbrev rcV (r : Rc) (p : Option Addr) (cp : Nat) : Value := .agg #[.int .i64 (r.k : Int), .int .i64 (r.n : Int), .int .i64 (r.i : Int), .int .i64 (r.e : Int), .slice p r.b.length cp]
theorem own_oneI (w : World) (x : Nat) (hx : x < 256) : Ow (w.alloc (.cells #[.int .u8 (x : Int)] 5)) w.heap.size (.slice (some ⟨w.heap.size, 0, none⟩) 1 1) [x] := by
  exact World.ownsRow_lit w #[.int .u8 (x : Int)] 1 (Nat.le_refl _) (by unfold maxLen; omega) rfl
theorem numB_len9 {n : Nat} (h : n < 9223372036854775808) : (numB n).length ≤ 9 := by
  have h8 := numW8 h
  have : (numB n).length = numW n + 1 := by show (_ :: digs _ _).length = _; rw [List.length_cons, digs_len]
  omega
set_option maxRecDepth 100000 in
set_option maxHeartbeats 1600000 in
theorem written_ok (r : Rc) (p : Option Addr) (cp : Nat) (w : World) (hr : Rb w p r.b.length r.b) (hg : GoodR r) :
    Calls Tryz.prog 87 #[rcV r p cp] w fun e w' => ∃ v, e = .returned v ∧ Kp (fun _ => False) w w' ∧ Ow w' w.heap.size v (wrS r) := by
  obtain ⟨k, n, i, e, b⟩ := r
  have hk1 := hg.k1
  have hn1 := hg.n1
  have hi1 := hg.i1
  have he1 := hg.e1
  have hbl := hg.bl
  dsimp only at hk1 hn1 hi1 he1 hbl hr
  obtain ⟨B, hB⟩ : ∃ B, B = b.length := ⟨_, rfl⟩
  have HR : Hid (Rb w p B b ∧ B ≤ 1980) := ⟨by rw [hB]; exact hr, by omega⟩
  have HB : Hid (B = b.length) := hB
  have HNu : Hid (n < 9223372036854775808 ∧ i < 9223372036854775808 ∧ e < 9223372036854775808 ∧ k ≤ 4) := ⟨by omega, by omega, by omega, by omega⟩
  have hu8 : IntKind.u8.wrap (k : Int) = (k : Int) := by
    simp [IntKind.wrap, IntKind.bits, IntKind.signed]
    omega
  obtain ⟨Z, hZ⟩ : ∃ Z, Z = wrS ⟨k, n, i, e, b⟩ := ⟨_, rfl⟩
  have HZ : Hid (Z = [k] ++ numB n ++ (if k = 4 then [] else numB i) ++ (if k = 3 then numB e else []) ++ b) := hZ
  rw [← hZ]
  show Calls Tryz.prog 87 #[.agg #[.int .i64 (k : Int), .int .i64 (n : Int), .int .i64 (i : Int), .int .i64 (e : Int), .slice p b.length cp]] w _
  rw [← hB]
  obtain ⟨r0, hr0⟩ : ∃ r0, r0 = w.heap.size := ⟨_, rfl⟩
  obtain ⟨w0, hw0⟩ : ∃ y, y = w.alloc (.cells #[.int .i64 (k : Int), .int .i64 (n : Int), .int .i64 (i : Int), .int .i64 (e : Int), .slice p B cp] 122) := ⟨_, rfl⟩
  have HK0 : Hid (Kp (fun _ => False) w w0) := by rw [hw0]; exact (Kp.refl _ _).alloc _
  have HL0 : Hid (Lv w0 r0 [.int .i64 (k : Int), .int .i64 (n : Int), .int .i64 (i : Int), .int .i64 (e : Int), .slice p B cp]) := by rw [hw0, hr0]; exact Lv.new _ _ _
  have HR0 : Hid (w.heap.size ≤ r0 ∧ r0 < w0.heap.size) := ⟨by omega, HL0.out.lt (by simp)⟩
  clear hr hg hk1 hn1 hi1 he1 hbl hB hZ
  go_enter Tryz.func87, Tryz.ntmps87
  go_upto_region 1 with fail
  rw [← hw0, ← hr0]
  clear hw0 hr0
  have c0 := HL0.out.cell (j := 0) rfl
  have e1 : Ow (w0.alloc (.cells #[.int .u8 (k : Int)] 5)) w0.heap.size (.slice (some ⟨w0.heap.size, 0, none⟩) 1 1) [k] := own_oneI w0 k (by have := HNu.out; omega)
  obtain ⟨w1, hw1⟩ : ∃ y, y = w0.alloc (.cells #[.int .u8 (k : Int)] 5) := ⟨_, rfl⟩
  rw [← hw1] at e1
  have k01 : Kp (fun _ => False) w0 w1 := by rw [hw1]; exact (Kp.refl _ _).alloc _
  obtain ⟨v1, hv1⟩ : ∃ v : Value, v = .slice (some ⟨w0.heap.size, 0, none⟩) 1 1 := ⟨_, rfl⟩
  rw [← hv1] at e1
  have HO1 : Hid (Ow w1 w0.heap.size v1 [k]) := e1
  have HK1 : Hid (Kp (fun _ => False) w w1 ∧ Kp (fun _ => False) w0 w1) := ⟨HK0.out.trans k01 (fun _ _ e => e), k01⟩
  have HC1 : Hid (Calls _ _ _ w1 _) := appNum_ok w0.heap.size v1 [k] n w1 e1 k01.size HNu.out.1 (by simp)
  have hk4 : k = 4 ∨ k ≠ 4 := by omega
  go_upto_region 2 with fail
  rw [← hw1, ← hv1]
  clear hw1 e1 k01 hv1 c0 hu8
  have c1 : w1.cell? ⟨r0, 1, none⟩ = some (.int .i64 (n : Int)) := (HL0.out.keep HK1.out.2 id).cell (j := 1) rfl
  go_wp2_with fail
  refine HC1.out.mono ?_
  rintro e9 w2 ⟨v2, rfl, a2⟩
  have HO2 : Hid (Ow w2 w0.heap.size v2 ([k] ++ numB n)) := a2.o
  have HK2 : Hid (Kp (fun _ => False) w w2 ∧ Kp (fun _ => False) w0 w2) := by
    have h1 : Kp (fun _ => False) w0 w2 := HK1.out.2.trans a2.k (fun b9 hb9 e9 => by have := (ownBlock_lt HO1.out e9).1; omega)
    exact ⟨HK0.out.trans h1 (fun _ _ e => e), h1⟩
  have HL2 : Hid (Lv w2 r0 [.int .i64 (k : Int), .int .i64 (n : Int), .int .i64 (i : Int), .int .i64 (e : Int), .slice p B cp]) := HL0.out.keep HK2.out.2 id
  clear a2 HC1 c1
  have c0 := HL2.out.cell (j := 0) rfl
  by_cases h4 : k = 4
  · have hk4 : ((k : Int) != 4) = false := by rw [h4]; rfl
    have hk3 : ((k : Int) == 3) = false := by rw [h4]; rfl
    have HZ4 : Hid (k = 4) := h4
    clear h4
    go_upto_region 7 with fail
    have HLX := HL2
    have HKX := HK2
    have HOX := HO2
    have c4 : w2.cell? ⟨r0, 4, none⟩ = some (.slice p B cp) := HLX.out.cell (j := 4) rfl
    have HXl : Hid (([k] ++ numB n).length + B ≤ 140737488355328 ∧ w0.heap.size ≤ w2.heap.size) := ⟨by
      have h1 := numB_len9 HNu.out.1
      have h2 := numB_len9 HNu.out.2.1
      have h3 := numB_len9 HNu.out.2.2.1
      have h4 := HR.out.2
      simp only [List.length_append, List.length_cons, List.length_nil]
      omega, HKX.out.2.size⟩
    go_wp2_with (at_builtin; refine wpList_append_bytes _ rfl _ _ rfl w0.heap.size v2 ([k] ++ numB n) rfl HOX.out p B cp b rfl (HR.out.1.keep0 HKX.out.1) HXl.out.1 HXl.out.2 ?_; intro v9 w9 o9 k9 b9)
    have HF : Hid (Kp (fun _ => False) w w9 ∧ Ow w9 w.heap.size v9 Z) := ⟨HKX.out.1.trans k9 (fun b9 hb9 e9 => by have := (ownBlock_lt HOX.out e9).1; have := HR0.out; omega), by
      rw [HZ.out, if_pos HZ4.out, if_neg (by have := HZ4.out; omega), List.append_nil, List.append_nil]
      exact ownsRow_base o9 (by have := HR0.out; omega)⟩
    clear o9 k9 b9
    go_ret
    exact ⟨v9, rfl, HF.out⟩
  · have hk4 : ((k : Int) != 4) = true := by simp; omega
    have HZ4 : Hid (¬ k = 4) := h4
    have HC2 : Hid (Calls _ _ _ w2 _) := appNum_ok w0.heap.size v2 ([k] ++ numB n) i w2 HO2.out HK2.out.2.size HNu.out.2.1 (by have := numB_len9 HNu.out.1; simp; omega)
    have c2 := HL2.out.cell (j := 2) rfl
    clear h4
    go_wp2_with fail
    refine HC2.out.mono ?_
    rintro e9 w3 ⟨v3, rfl, a3⟩
    have HO3 : Hid (Ow w3 w0.heap.size v3 ([k] ++ numB n ++ numB i)) := a3.o
    have HK3 : Hid (Kp (fun _ => False) w w3 ∧ Kp (fun _ => False) w0 w3) := by
      have h1 : Kp (fun _ => False) w0 w3 := HK2.out.2.trans a3.k (fun b9 hb9 e9 => by have := (ownBlock_lt HO2.out e9).1; omega)
      exact ⟨HK0.out.trans h1 (fun _ _ e => e), h1⟩
    have HL3 : Hid (Lv w3 r0 [.int .i64 (k : Int), .int .i64 (n : Int), .int .i64 (i : Int), .int .i64 (e : Int), .slice p B cp]) := HL0.out.keep HK3.out.2 id
    clear a3 HC2 c2 c0
    have c0 := HL3.out.cell (j := 0) rfl
    by_cases h3 : k = 3
    · have hk3 : ((k : Int) == 3) = true := by rw [h3]; rfl
      have HZ3 : Hid (k = 3) := h3
      have HC3 : Hid (Calls _ _ _ w3 _) := appNum_ok w0.heap.size v3 ([k] ++ numB n ++ numB i) e w3 HO3.out HK3.out.2.size HNu.out.2.2.1 (by have := numB_len9 HNu.out.1; have := numB_len9 HNu.out.2.1; simp; omega)
      have c3 := HL3.out.cell (j := 3) rfl
      clear h3
      go_wp2_with fail
      refine HC3.out.mono ?_
      rintro e9 w4 ⟨v4, rfl, a4⟩
      have HOX : Hid (Ow w4 w0.heap.size v4 ([k] ++ numB n ++ numB i ++ numB e)) := a4.o
      have HKX : Hid (Kp (fun _ => False) w w4 ∧ Kp (fun _ => False) w0 w4) := by
        have h1 : Kp (fun _ => False) w0 w4 := HK3.out.2.trans a4.k (fun b9 hb9 e9 => by have := (ownBlock_lt HO3.out e9).1; omega)
        exact ⟨HK0.out.trans h1 (fun _ _ e => e), h1⟩
      have HLX : Hid (Lv w4 r0 [.int .i64 (k : Int), .int .i64 (n : Int), .int .i64 (i : Int), .int .i64 (e : Int), .slice p B cp]) := HL0.out.keep HKX.out.2 id
      clear a4 HC3 c3 c0
      have c4 : w4.cell? ⟨r0, 4, none⟩ = some (.slice p B cp) := HLX.out.cell (j := 4) rfl
      have HXl : Hid (([k] ++ numB n ++ numB i ++ numB e).length + B ≤ 140737488355328 ∧ w0.heap.size ≤ w4.heap.size) := ⟨by
        have h1 := numB_len9 HNu.out.1
        have h2 := numB_len9 HNu.out.2.1
        have h3 := numB_len9 HNu.out.2.2.1
        have h4 := HR.out.2
        simp only [List.length_append, List.length_cons, List.length_nil]
        omega, HKX.out.2.size⟩
      go_wp2_with (at_builtin; refine wpList_append_bytes _ rfl _ _ rfl w0.heap.size v4 ([k] ++ numB n ++ numB i ++ numB e) rfl HOX.out p B cp b rfl (HR.out.1.keep0 HKX.out.1) HXl.out.1 HXl.out.2 ?_; intro v9 w9 o9 k9 b9)
      have HF : Hid (Kp (fun _ => False) w w9 ∧ Ow w9 w.heap.size v9 Z) := ⟨HKX.out.1.trans k9 (fun b9 hb9 e9 => by have := (ownBlock_lt HOX.out e9).1; have := HR0.out; omega), by
        rw [HZ.out, if_neg HZ4.out, if_pos HZ3.out]
        exact ownsRow_base o9 (by have := HR0.out; omega)⟩
      clear o9 k9 b9
      go_ret
      exact ⟨v9, rfl, HF.out⟩
    · have hk3 : ((k : Int) == 3) = false := by rw [beq_eq_false_iff_ne]; omega
      have HZ3 : Hid (¬ k = 3) := h3
      clear h3
      go_upto_region 7 with fail
      have HLX := HL3
      have HKX := HK3
      have HOX := HO3
      have c4 : w3.cell? ⟨r0, 4, none⟩ = some (.slice p B cp) := HLX.out.cell (j := 4) rfl
      have HXl : Hid (([k] ++ numB n ++ numB i).length + B ≤ 140737488355328 ∧ w0.heap.size ≤ w3.heap.size) := ⟨by
        have h1 := numB_len9 HNu.out.1
        have h2 := numB_len9 HNu.out.2.1
        have h3 := numB_len9 HNu.out.2.2.1
        have h4 := HR.out.2
        simp only [List.length_append, List.length_cons, List.length_nil]
        omega, HKX.out.2.size⟩
      go_wp2_with (at_builtin; refine wpList_append_bytes _ rfl _ _ rfl w0.heap.size v3 ([k] ++ numB n ++ numB i) rfl HOX.out p B cp b rfl (HR.out.1.keep0 HKX.out.1) HXl.out.1 HXl.out.2 ?_; intro v9 w9 o9 k9 b9)
      have HF : Hid (Kp (fun _ => False) w w9 ∧ Ow w9 w.heap.size v9 Z) := ⟨HKX.out.1.trans k9 (fun b9 hb9 e9 => by have := (ownBlock_lt HOX.out e9).1; have := HR0.out; omega), by
        rw [HZ.out, if_neg HZ4.out, if_neg HZ3.out, List.append_nil]
        exact ownsRow_base o9 (by have := HR0.out; omega)⟩
      clear o9 k9 b9
      go_ret
      exact ⟨v9, rfl, HF.out⟩
end Go.Proofs.YtippipeebkkghaaGreatDoor
