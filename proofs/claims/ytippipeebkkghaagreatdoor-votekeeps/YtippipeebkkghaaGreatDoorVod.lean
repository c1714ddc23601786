/- Ranks that are read. -/
import Derived.Test.YtippipeebkkghaaGreatDoorVoc
import Derived.Test.YtippipeebkkghaaGreatDoorOi
import Derived.Handy
import Derived.BigQuiet
namespace Go.Proofs.YtippipeebkkghaaGreatDoor
set_option linter.unusedVariables false
set_option linter.unusedSimpArgs false
open Go.RowKit Go.Deep

theorem slice_first1 (p : Option Addr) (n c : Nat) (hc : 1 ≤ c) (w : World) :
    (Instr.sliceAt 75 (.slice p n c) none (some (.int .i64 1)) none).run Tryz.prog w = .ok (.slice p 1 c) w := by
  have h : (Instr.slice 75 (.slice p n c) none (some (.int .i64 1)) none).run Tryz.prog w = .ok (.slice (if c = 0 then p else p.map (·.add (0 * 1))) (1 - 0) (c - 0)) w := by
    obtain ⟨i, hi, hz⟩ := Option.map_eq_some_iff.1 info5
    simp only [Prod.mk.injEq] at hz
    obtain ⟨hz, hs, hb⟩ := hz
    have h2 : (1 : Int) ≤ (c : Int) := by omega
    simp [Instr.slice, Instr.sliceBounds, Instr.sliceBound, asIntOf, run_underlying Tryz.underlying75, sizeOf, typeInfo, hi, h2, hc]
  simp [Instr.sliceAt, run_underlying Tryz.underlying75, h]
  cases p <;> simp [Addr.add]
theorem slice_restV (p : Option Addr) (n c : Nat) (hc : n ≤ c) (h1 : 1 ≤ n) (w : World) :
    (Instr.sliceAt 75 (.slice p n c) (some (.int .i64 1)) none none).run Tryz.prog w = .ok (.slice (if c = 1 then p else p.map (·.add (1 * 1))) (n - 1) (c - 1)) w := by
  have h : (Instr.slice 75 (.slice p n c) (some (.int .i64 1)) none none).run Tryz.prog w = .ok (.slice (if c = 1 then p else p.map (·.add (1 * 1))) (n - 1) (c - 1)) w := by
    obtain ⟨i, hi, hz⟩ := Option.map_eq_some_iff.1 info5
    simp only [Prod.mk.injEq] at hz
    obtain ⟨hz, hs, hb⟩ := hz
    have h2 : (n : Int) ≤ (c : Int) := by omega
    have h3 : (1 : Int) ≤ (n : Int) := by omega
    have h4 : ¬ n < 1 := by omega
    simp [Instr.slice, Instr.sliceBounds, Instr.sliceBound, asIntOf, run_underlying Tryz.underlying75, sizeOf, typeInfo, hi, hs, h2, h3, hc, h1, h4]
  simp [Instr.sliceAt, run_underlying Tryz.underlying75, h]

theorem res_cell_tmp2 {fn : Func} {t t2 t3 : Tmp} {ty : TypeId} (h : fn.results = #[.cell t ty, .tmp t2, .tmp t3]) (tmps : Array Value) (w : World) (g : Nat) (v : Value) (ht : tmps.getD t undef = .pointer (some ⟨g, 0, none⟩)) (hl : (loadVar ty ⟨g, 0, none⟩).run Tryz.prog w = .ok v w) :
    (results fn tmps).run Tryz.prog w = .ok (.tuple #[v, tmps.getD t2 undef, tmps.getD t3 undef]) w := by
  have ht' : tmps[t]?.getD undef = .pointer (some ⟨g, 0, none⟩) := by simpa using ht
  simp [results, h, ht', asAddr, hl]
set_option maxRecDepth 100000 in
theorem load_rank (g : Nat) (x : Int) (w : World) (h : w.cell? ⟨g, 0, none⟩ = some (.int .i64 x)) : (loadVar 68 ⟨g, 0, none⟩).run Tryz.prog w = .ok (.agg #[.int .i64 x]) w := by
  go_simp

set_option maxRecDepth 100000 in
theorem readRank_none (p : Option Addr) (c : Nat) (w : World) :
    Calls Tryz.prog 43 #[.slice p 0 c] w fun e w' => e = .returned (.tuple #[.agg #[.int .i64 0], .slice none 0 0, .bool false]) ∧ Kp (fun _ => False) w w' := by
  obtain ⟨h0, hh0⟩ : ∃ y, y = w.heap.size := ⟨_, rfl⟩
  obtain ⟨w0, hw0⟩ : ∃ y, y = w.alloc (.cells #[.int .i64 0] 68) := ⟨_, rfl⟩
  have HK0 : Hid (Kp (fun _ => False) w w0) := by rw [hw0]; exact (Kp.refl _ _).alloc _
  have hl : Lv w0 h0 [.int .i64 0] := by rw [hw0, hh0]; exact Lv.new _ _ _
  have c0 : w0.cell? ⟨h0, 0, none⟩ = some (.int .i64 0) := hl.cell (j := 0) rfl
  have f0 : w0.frozen? ⟨h0, 0, none⟩ = false := hl.fz (show 0 < 1 by omega)
  have HF : Hid (Kp (fun _ => False) w (w0.setCell ⟨h0, 0, none⟩ (.int .i64 0)) ∧ (w0.setCell ⟨h0, 0, none⟩ (.int .i64 0)).cell? ⟨h0, 0, none⟩ = some (.int .i64 0)) := ⟨HK0.out.trans ((Kp.refl (fun b => b = h0) w0).setCell (fun _ => rfl) _) (fun b hb e => by omega), (hl.set1 0 (.int .i64 0) (by show 0 < 1; omega)).cell (j := 0) rfl⟩
  clear hl
  go_enter Tryz.func43, Tryz.ntmps43
  go_upto_region 1 with fail
  rw [← hw0, ← hh0]
  clear hw0 hh0
  go_wp2_with fail
  refine bodyPost_ret (res_cell_tmp2 Tryz.results43 _ _ h0 _ rfl (load_rank h0 0 _ HF.out.2)) rfl ?_
  exact ⟨rfl, HF.out.1⟩

set_option maxRecDepth 100000 in
theorem readRank_one (p : Option Addr) (n c b : Nat) (t : List Nat) (w : World) (h : Rb w p n (1 :: b :: t)) (hc : n ≤ c) (hb : 1 ≤ b ∧ b ≤ 20) (hn : n ≤ 100000) :
    Calls Tryz.prog 43 #[.slice p n c] w fun e w' => ∃ q m cq, e = .returned (.tuple #[.agg #[.int .i64 (b : Int)], .slice q m cq, .bool true]) ∧ Kp (fun _ => False) w w' ∧ m = t.length ∧ Rb w' q m t ∧ m ≤ cq ∧ cq ≤ c := by
  have hlen := h.len
  simp only [List.length_cons] at hlen
  obtain ⟨h0, hh0⟩ : ∃ y, y = w.heap.size := ⟨_, rfl⟩
  obtain ⟨w0, hw0⟩ : ∃ y, y = w.alloc (.cells #[.int .i64 0] 68) := ⟨_, rfl⟩
  have HK0 : Hid (Kp (fun _ => False) w w0) := by rw [hw0]; exact (Kp.refl _ _).alloc _
  have HL0 : Hid (Lv w0 h0 [.int .i64 0]) := by rw [hw0, hh0]; exact Lv.new _ _ _
  have h1 : Rb w0 p n (1 :: b :: t) := h.keep0 HK0.out
  obtain ⟨q2, hq2⟩ : ∃ q, q = (if c = 1 then p else p.map (·.add (1 * 1))) := ⟨_, rfl⟩
  have h2 : Rb w0 q2 (n - 1) (b :: t) := by
    have hp := h1.part hc (l := 1) (r := n) (by omega) (Nat.le_refl _)
    rw [List.take_of_length_le (by simp only [List.length_cons]; omega), ← hq2] at hp
    exact hp
  obtain ⟨q3, hq3⟩ : ∃ q, q = (if c - 1 = 1 then q2 else q2.map (·.add (1 * 1))) := ⟨_, rfl⟩
  have h3 : Rb w0 q3 (n - 1 - 1) t := by
    have hp := h2.part (c := c - 1) (by omega) (l := 1) (r := n - 1) (by omega) (Nat.le_refl _)
    rw [List.take_of_length_le (by simp only [List.length_cons]; omega), ← hq3] at hp
    exact hp
  obtain ⟨g1, o1, e1, k1⟩ := h1.cell 0 (by omega)
  obtain ⟨g2, o2, e2, k2⟩ := h2.cell 0 (by omega)
  have k1 : w0.cell? ⟨g1, o1, none⟩ = some (.int .u8 1) := k1
  have k2 : w0.cell? ⟨g2, o2, none⟩ = some (.int .u8 (b : Int)) := k2
  have hs1 : ∀ z, (Instr.sliceAt 75 (.slice p n c) (some (.int .i64 1)) none none).run Tryz.prog z = .ok (.slice q2 (n - 1) (c - 1)) z := fun z => by rw [hq2]; exact slice_restV p n c hc (by omega) z
  have hs2 : ∀ z, (Instr.sliceAt 75 (.slice q2 (n - 1) (c - 1)) none (some (.int .i64 1)) none).run Tryz.prog z = .ok (.slice q2 1 (c - 1)) z := fun z => slice_first1 q2 (n - 1) (c - 1) (by omega) z
  have hs3 : ∀ z, (Instr.sliceAt 75 (.slice q2 (n - 1) (c - 1)) (some (.int .i64 1)) none none).run Tryz.prog z = .ok (.slice q3 (n - 1 - 1) (c - 1 - 1)) z := fun z => by rw [hq3]; exact slice_restV q2 (n - 1) (c - 1) (by omega) (by omega) z
  have HR3 : Hid (Rb w0 q3 (n - 1 - 1) t ∧ n - 1 - 1 = t.length ∧ n - 1 - 1 ≤ c - 1 - 1 ∧ c - 1 - 1 ≤ c) := ⟨h3, by omega, by omega, by omega⟩
  have hor : bits .or .u64 0 (b : Int) = (b : Int) := by
    have h9 := u64_or_shift 0 b (by decide) (by omega)
    have e : IntKind.u64.wrap (((0 : Nat) : Int) * 256) = 0 := by decide
    rw [e] at h9
    rw [h9]
    simp
  have HH0 : Hid (h0 = w.heap.size) := hh0
  have HQ3 : Hid (∀ a, q3 = some a → a.block ≠ h0) := fun a ha e => by
    obtain ⟨g9, o9, e9, k9⟩ := h.cell 0 (by omega)
    have hg := World.block_lt_of_cell? _ _ k9
    have hg : g9 < w.heap.size := hg
    have hb2 : ∀ a, q2 = some a → a.block = g9 := fun a ha => by
      rw [hq2, e9] at ha
      by_cases e : c = 1
      · rw [if_pos e] at ha; injection ha with ha; rw [← ha]
      · rw [if_neg e] at ha
        injection ha with ha
        rw [← ha]
        rfl
    have hb3 : a.block = g9 := by
      rw [hq3] at ha
      by_cases e : c - 1 = 1
      · rw [if_pos e] at ha; exact hb2 a ha
      · rw [if_neg e] at ha
        cases hq : q2 with
        | none => rw [hq] at ha; cases ha
        | some z =>
          rw [hq] at ha
          injection ha with ha
          rw [← ha]
          exact hb2 z hq
    omega
  obtain ⟨n1, hn1⟩ : ∃ y, y = n - 1 := ⟨_, rfl⟩
  obtain ⟨c1, hc1⟩ : ∃ y, y = c - 1 := ⟨_, rfl⟩
  rw [← hn1, ← hc1] at hs1 hs2 hs3 HR3
  have hz1 : ¬ (n : Int) = 0 := by omega
  have hz2 : ¬ ((n1 : Int) < 1) := by omega
  have hz3 : ¬ ((b : Int) = 0) := by omega
  have hz4 : (b : Int) < 256 := by omega
  have hz0 : 0 < n := by omega
  have hz9 : 0 < n1 := by omega
  subst e1
  clear h h1 h2 h3 hlen hq2 hq3 hn1 hc1 hc hn
  subst e2
  go_enter Tryz.func43, Tryz.ntmps43
  go_upto_region 1 with fail
  rw [← hw0, ← hh0]
  clear hw0 hh0
  go_upto_region 3 with fail
  have hz1' : ((n : Int) == 0) = false := by simpa using hz1
  have HL0' : Hid (Lv w0 h0 [.int .i64 0]) := HL0.out
  go_region
  all_goals
    have kd : Kp (fun _ => False) w0 w0.drew := (Kp.refl _ _).drew
    obtain ⟨w1, hw1⟩ : ∃ y, y = w0.drew := ⟨_, rfl⟩
    rw [← hw1] at kd ⊢
    have x2 : w1.cell? ⟨g2, o2, none⟩ = some (.int .u8 (b : Int)) := kd.cellv k2 id
    have HKd : Hid (Kp (fun _ => False) w0 w1) := kd
    clear k1 k2 kd hw1 hs1
    go_simp
    go_wp2_with fail
    go_loopg [6, 42] 1 (fun gk nv iv wz => wz = w1 ∧ ((gk = 1 ∧ iv = .int .i64 0 ∧ nv = .int .u64 0) ∨ (gk = 0 ∧ iv = .int .i64 1 ∧ nv = .int .u64 (b : Int))))
    case atStart => exact ⟨rfl, Or.inl ⟨rfl, rfl, rfl⟩⟩
    case round =>
      obtain ⟨rfl, hrel⟩ := hrel
      rcases hrel with ⟨rfl, rfl, rfl⟩ | ⟨rfl, rfl, rfl⟩
      · go_wp2_with fail
        go_roundg 0
        case rel => exact ⟨rfl, Or.inr ⟨rfl, rfl, by first | rw [hor] | rfl | (simp only [hor]; done)⟩⟩
        case measure => exact Nat.zero_lt_one
      · have y0 : wr.cell? ⟨h0, 0, none⟩ = some (.int .i64 0) := (HL0'.out.keep HKd.out id).cell (j := 0) rfl
        have f0 : wr.frozen? ⟨h0, 0, none⟩ = false := (HL0'.out.keep HKd.out id).fz (show 0 < 1 by omega)
        have HFin : Hid (∀ u, Kp (fun b => b = h0) wr u → Kp (fun _ => False) w u ∧ Rb u q3 (n1 - 1) t) := fun u k => by
          have hk := (HK0.out.trans HKd.out (fun _ _ e => e)).trans k (fun b9 hb e => by have := HH0.out; have e' : b9 = h0 := e; omega)
          refine ⟨hk, (HR3.out.1.keep0 HKd.out).keep k (fun a ha hp e => ?_)⟩
          have e' : a.block = h0 := e
          exact HQ3.out a ha e'
        have ks : Kp (fun b => b = h0) wr (wr.setCell ⟨h0, 0, none⟩ (.int .i64 (b : Int))) := (Kp.refl (fun b => b = h0) wr).setCell (fun _ => rfl) _
        have kd2 : Kp (fun b => b = h0) wr wr.drew := (Kp.refl _ _).drew
        have ks2 : Kp (fun b => b = h0) wr (wr.drew.setCell ⟨h0, 0, none⟩ (.int .i64 (b : Int))) := kd2.setCell (fun _ => rfl) _
        have z1 : (wr.setCell ⟨h0, 0, none⟩ (.int .i64 (b : Int))).drew.cell? ⟨h0, 0, none⟩ = some (.int .i64 (b : Int)) := ((Kp.refl (fun _ => False) (wr.setCell ⟨h0, 0, none⟩ (.int .i64 (b : Int)))).drew).cellv (((HL0'.out.keep HKd.out id).set1 0 (.int .i64 (b : Int)) (by show 0 < 1; omega)).cell (j := 0) rfl) id
        clear x2 hor hs2
        go_upto_region 14 with fail
        go_region
        all_goals
          go_simp
          go_wp2_with fail
          refine bodyPost_ret (res_cell_tmp2 Tryz.results43 _ _ h0 _ rfl (load_rank h0 (b : Int) _ z1)) rfl ?_
          obtain ⟨x1, x2⟩ := HFin.out _ ks.drew
          exact ⟨q3, n1 - 1, c1 - 1, rfl, x1, HR3.out.2.1, x2, HR3.out.2.2.1, HR3.out.2.2.2⟩
end Go.Proofs.YtippipeebkkghaaGreatDoor
