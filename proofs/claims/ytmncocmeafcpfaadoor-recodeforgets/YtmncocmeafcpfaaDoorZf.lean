/- A put's beginning: coord.New of a put; whether a message is of a shard. -/
import Derived.Test.YtmncocmeafcpfaaDoorZe
import Derived.Test.YtmncocmeafcpfaaDoorZc
import Derived.Test.YtmncocmeafcpfaaDoorMb
import Derived.Test.YtmncocmeafcpfaaDoorYe
namespace Go.Proofs.YtmncocmeafcpfaaDoor
set_option linter.unusedVariables false
set_option linter.unusedSimpArgs false
open Go.RowKit Go.Deep

abbrev askPut (aid : Int) (p : Option Addr) (n c : Nat) : Array Value := #[.int .i64 aid, .int .i64 1, .string keyA, .slice p n c]
abbrev cmPut (nid : Int) (n : Nat) (sm : Int) (K M : Int) : Cs0 := ⟨nid, 1, keyA, 0, 0, 0, 0, (n : Int), sm, K, M⟩
set_option maxRecDepth 100000 in
set_option maxHeartbeats 800000 in
theorem may_put (aid : Int) (p : Option Addr) (n c : Nat) (w : World) (hn : (n : Int) ≤ 400) : Calls Tryd.prog 68 #[.agg (askPut aid p n c)] w fun e w' => e = .returned (.bool true) ∧ Kp (fun _ => False) w w' := by
  have H1 : Hid (∀ u, Calls _ _ _ u _) := fun u => cmdOf_put u
  have H2 : Hid (∀ u, Calls _ _ _ u _) := fun u => key_a u
  go_enter Tryd.func68, Tryd.ntmps68
  go_wp2_with (first
    | (go_at_call 69; refine (H1.out _).mono ?_; rintro e w1 ⟨rfl, hw1⟩; subst hw1)
    | (go_at_call 100; refine (H2.out _).mono ?_; rintro e w1 ⟨rfl, hw1⟩; subst hw1))
  go_ret
  exact ⟨by simp, (Kp.refl _ _).alloc _⟩
set_option maxRecDepth 100000 in
set_option maxHeartbeats 3200000 in
theorem new_put (self aid : Int) (p : Option Addr) (n c : Nat) (xs : List Nat) (w : World) (hself : 0 ≤ self ∧ self < 16) (h : Rb w p n xs) (hn : (n : Int) ≤ 400) (ht : Turns w) :
    Calls Tryd.prog 34 #[.int .i64 self, .agg (askPut aid p n c), .int .i64 9, .int .i64 0] w fun e w' => ∃ cb wp wc, e = .returned (.tuple #[.pointer (some ⟨cb, 0, none⟩), .int .i64 0]) ∧ Kp (fun _ => False) w w' ∧ w.heap.size ≤ cb ∧
      Lv w' cb (callA self aid 0 (cmPut 9 n (Crc.sum xs : Nat) 0 0) (.slice none 0 0) false (.slice wp n wc) (.pointer none) (.pointer none)) ∧ Rb w' wp n xs ∧ n ≤ wc ∧ (∀ a, wp = some a → w.heap.size ≤ a.block ∧ a.block ≠ cb ∧ a.block < w'.heap.size) := by
  have H1 : Hid (∀ u, Calls Tryd.prog 48 #[.int .i64 self] u fun e w' => e = .returned (.bool true) ∧ w' = u) := fun u => by
    have := isNode_ok self u
    rw [show (decide (0 ≤ self) && decide (self < 16)) = true by simp [hself.1, hself.2]] at this
    exact this
  have H2 : Hid (∀ u, Calls _ _ _ u _) := fun u => may_put aid p n c u hn
  have H3 : Hid (∀ u, Calls _ _ _ u _) := fun u => cmdOf_put u
  have HS : Hid (∀ u, Kp (fun _ => False) w u → Calls _ _ _ u _) := fun u k => sum_any p n c xs u (h.keep0 k) (by omega) (ht.keep0 k)
  have HR : Hid (Rb w p n xs ∧ n ≤ 400) := ⟨h, by omega⟩
  have k0 : Kp (fun _ => False) w (w.alloc (.cells (askPut aid p n c) 81)) := (Kp.refl _ _).alloc _
  have HL : Hid (Lv (w.alloc (.cells (askPut aid p n c) 81)) w.heap.size (askPut aid p n c).toList) := Lv.new w _ _
  clear h hn ht hself
  go_enter Tryd.func34, Tryd.ntmps34
  go_wp2_with (first
    | (go_at_call 48; refine (H1.out _).mono ?_; rintro e w1 ⟨rfl, hw1⟩; subst hw1)
    | (go_at_call 68; refine (H2.out _).mono ?_; rintro e w1 ⟨rfl, k1⟩))
  have kd : Kp (fun _ => False) (w.alloc (.cells (askPut aid p n c) 81)) w1.drew := k1.drew
  have l1 : Lv w1.drew w.heap.size (askPut aid p n c).toList := HL.out.keep kd id
  have ka : Kp (fun _ => False) w1.drew (w1.drew.alloc (.cells #[.int .i64 self, .int .i64 aid, .int .i64 0, .int .i64 9, .int .i64 1, .string keyA, .int .i64 0, .int .i64 0, .int .i64 0, .int .i64 0, .int .i64 0, .int .u32 0, .int .i64 0, .int .i64 0, .slice none 0 0, .bool false, .slice none 0 0, .pointer none, .pointer none] 106)) := (Kp.refl _ _).alloc _
  have l2 := l1.keep ka id
  refine cn3_region ⟨by kernel_rfl, by kernel_rfl, by kernel_rfl, by kernel_rfl, by kernel_rfl, by kernel_rfl, by kernel_rfl, by kernel_rfl, by kernel_rfl, by kernel_rfl, by kernel_rfl, by kernel_rfl, by kernel_rfl, by kernel_rfl, by kernel_rfl, by kernel_rfl, by kernel_rfl, by kernel_rfl, by kernel_rfl, by kernel_rfl, by kernel_rfl, by kernel_rfl⟩ w.heap.size self aid 1 1 9 0 keyA (fun d _ _ _ _ h => by cases d <;> exact h) (by rfl) (by rfl) (by rfl) (by rfl) (by rfl) ⟨l1.cell (j := 0) rfl, l1.cell (j := 1) rfl, l1.cell (j := 2) rfl⟩ ⟨l2.cell (j := 0) rfl, l2.cell (j := 1) rfl, l2.cell (j := 2) rfl⟩ (H3.out _) ?_
  simp only [Act.put, List.setIfInBounds_toArray, List.set_cons_succ, List.set_cons_zero]
  have d1 := l2.cell (j := 1) rfl
  have hl : Lv (w1.drew.alloc (.cells #[.int .i64 self, .int .i64 aid, .int .i64 0, .int .i64 9, .int .i64 1, .string keyA, .int .i64 0, .int .i64 0, .int .i64 0, .int .i64 0, .int .i64 0, .int .u32 0, .int .i64 0, .int .i64 0, .slice none 0 0, .bool false, .slice none 0 0, .pointer none, .pointer none] 106)) w1.drew.heap.size (callA self aid 0 ⟨9, 1, keyA, 0, 0, 0, 0, 0, 0, 0, 0⟩ (.slice none 0 0) false (.slice none 0 0) (.pointer none) (.pointer none)) := Lv.new w1.drew _ _
  have hk := (k0.trans kd (fun _ _ e => e)).trans ka (fun _ _ e => e)
  have hsz := (k0.trans kd (fun _ _ e => e)).size
  have hbx : w.heap.size < w1.drew.heap.size := by have := kd.size; simp only [World.alloc, Array.size_push] at this; omega
  obtain ⟨z, hz⟩ : ∃ x, x = (w1.drew.alloc (.cells #[.int .i64 self, .int .i64 aid, .int .i64 0, .int .i64 9, .int .i64 1, .string keyA, .int .i64 0, .int .i64 0, .int .i64 0, .int .i64 0, .int .i64 0, .int .u32 0, .int .i64 0, .int .i64 0, .slice none 0 0, .bool false, .slice none 0 0, .pointer none, .pointer none] 106)) := ⟨_, rfl⟩
  rw [← hz] at hl hk d1 l2 ⊢
  obtain ⟨g, hg⟩ : ∃ g, g = w1.drew.heap.size := ⟨_, rfl⟩
  rw [← hg] at hl hsz hbx ⊢
  have HH : Hid (Lv z g (callA self aid 0 ⟨9, 1, keyA, 0, 0, 0, 0, 0, 0, 0, 0⟩ (.slice none 0 0) false (.slice none 0 0) (.pointer none) (.pointer none)) ∧ Kp (fun _ => False) w z ∧ w.heap.size < g ∧ Lv z w.heap.size (askPut aid p n c).toList) := ⟨hl, hk, hbx, l2⟩
  clear hg hl hk hsz hz l2 ka l1 kd k1 hbx HL k0
  obtain ⟨bx, hbx⟩ : ∃ bx, bx = w.heap.size := ⟨_, rfl⟩
  rw [← hbx] at HH d1 ⊢
  have HBX : Hid (bx = w.heap.size) := hbx
  clear hbx
  go_wp2
  have kd : Kp (fun _ => False) z z.drew := (Kp.refl _ _).drew
  obtain ⟨hl, hk, hbg, lb⟩ := HH.out
  have hl0 : Lv z.drew g _ := hl.keep kd id
  have lb0 : Lv z.drew bx _ := lb.keep kd id
  have hl1 : Lv (z.drew.setCell ⟨g, 10, none⟩ (.int .i64 (n : Int))) g (callA self aid 0 ⟨9, 1, keyA, 0, 0, 0, 0, (n : Int), 0, 0, 0⟩ (.slice none 0 0) false (.slice none 0 0) (.pointer none) (.pointer none)) := hl0.set1 10 (.int .i64 (n : Int)) (show 10 < 19 by omega)
  have hl2 : Lv ((z.drew.setCell ⟨g, 10, none⟩ (.int .i64 (n : Int))).setCell ⟨g, 11, none⟩ (.int .u32 ((Crc.sum xs : Nat) : Int))) g (callA self aid 0 (cmPut 9 n (Crc.sum xs : Nat) 0 0) (.slice none 0 0) false (.slice none 0 0) (.pointer none) (.pointer none)) := hl1.set1 11 (.int .u32 ((Crc.sum xs : Nat) : Int)) (show 11 < 19 by omega)
  have ks1 : Kp (fun b => b = g) z.drew (z.drew.setCell ⟨g, 10, none⟩ (.int .i64 (n : Int))) := (Kp.refl (fun b => b = g) _).setCell (fun _ => rfl) _
  have ks2 : Kp (fun b => b = g) z.drew ((z.drew.setCell ⟨g, 10, none⟩ (.int .i64 (n : Int))).setCell ⟨g, 11, none⟩ (.int .u32 ((Crc.sum xs : Nat) : Int))) := ks1.setCell (fun _ => rfl) _
  have lb1 := lb0.keep ks1 (fun e => by omega)
  have lb2 := lb0.keep ks2 (fun e => by omega)
  refine cn5_region ⟨by kernel_rfl, by kernel_rfl, by kernel_rfl, by kernel_rfl, by kernel_rfl, by kernel_rfl, by kernel_rfl, by kernel_rfl, by kernel_rfl, by kernel_rfl, by kernel_rfl, by kernel_rfl, by kernel_rfl, by kernel_rfl, by kernel_rfl, by kernel_rfl, by kernel_rfl, by kernel_rfl, by kernel_rfl, by kernel_rfl, by kernel_rfl, by kernel_rfl, by kernel_rfl, by kernel_rfl, by kernel_rfl⟩ bx g n c p ((Crc.sum xs : Nat) : Int) (.int .i64 0) (.int .u32 0) (fun d _ _ _ _ h => by cases d <;> exact h) (by rfl) (by rfl) (by rfl) (lb0.cell (j := 3) rfl) (lb1.cell (j := 3) rfl) (lb2.cell (j := 3) rfl) (hl0.cell (j := 10) rfl) (hl0.fz (j := 10) (show 10 < 19 by omega)) (hl1.cell (j := 11) rfl) (hl1.fz (j := 11) (show 11 < 19 by omega)) (HS.out _ (hk.trans kd (fun _ _ e => e))) ?_
  simp only [Act.put, List.setIfInBounds_toArray, List.set_cons_succ, List.set_cons_zero]
  have kw2 : Kp (fun b => b = g) w ((z.drew.setCell ⟨g, 10, none⟩ (.int .i64 (n : Int))).setCell ⟨g, 11, none⟩ (.int .u32 ((Crc.sum xs : Nat) : Int))) := ((hk.trans kd (fun _ _ e => e)).mono (fun _ _ e => e.elim)).trans ks2 (fun _ _ e => e)
  obtain ⟨y, hy⟩ : ∃ x, x = ((z.drew.setCell ⟨g, 10, none⟩ (.int .i64 (n : Int))).setCell ⟨g, 11, none⟩ (.int .u32 ((Crc.sum xs : Nat) : Int))) := ⟨_, rfl⟩
  rw [← hy] at hl2 kw2 lb2 ⊢
  have hb3 := lb2.cell (j := 3) rfl
  have HKW : Hid (Kp (fun _ => False) w y ∧ w.heap.size < g) := by
    have := HBX.out
    exact ⟨kw2.mono (fun b hb e => by omega), by omega⟩
  have HC : Hid (Calls _ _ _ y _) := clone_any p n c xs y (HR.out.1.keep0 HKW.out.1) (by have := HR.out.2; show _ ≤ _; omega)
  have HLy : Hid (Lv y g (callA self aid 0 (cmPut 9 n (Crc.sum xs : Nat) 0 0) (.slice none 0 0) false (.slice none 0 0) (.pointer none) (.pointer none)) ∧ xs.length = n) := ⟨hl2, HR.out.1.1⟩
  clear hy hl hk hbg lb hl0 lb0 hl1 hl2 ks1 ks2 lb1 lb2 kw2 kd HH HS H1 H2 H3
  go_wp2_with fail
  refine HC.out.mono ?_
  rintro e y1 ⟨v, rfl, k1, hown⟩
  have h256 : ∀ x ∈ xs, x < 256 := fun x hx => by
    obtain ⟨j, hj, e⟩ := List.getElem_of_mem hx
    have := HR.out.1.byteAt j
    rw [List.getD_eq_getElem?_getD, List.getElem?_eq_getElem hj, e] at this
    exact this
  obtain ⟨wp, wc, rfl, hwc, hrb, hwp⟩ := hown.rb h256
  have hlen : xs.length = n := HLy.out.2
  rw [hlen] at hwc hrb ⊢
  have l5 := HLy.out.1.keep k1 id
  have c16 := l5.cell (j := 16) rfl
  have f16 := l5.fz (j := 16) (show 16 < 19 by omega)
  have hg1 : g < y.heap.size := HLy.out.1.lt (by simp)
  have HF : Hid (Lv (y1.setCell ⟨g, 16, none⟩ (.slice wp n wc)) g (callA self aid 0 (cmPut 9 n (Crc.sum xs : Nat) 0 0) (.slice none 0 0) false (.slice wp n wc) (.pointer none) (.pointer none)) ∧ Kp (fun _ => False) w (y1.setCell ⟨g, 16, none⟩ (.slice wp n wc)) ∧ Rb (y1.setCell ⟨g, 16, none⟩ (.slice wp n wc)) wp n xs ∧ n ≤ wc ∧ (∀ a, wp = some a → w.heap.size ≤ a.block ∧ a.block ≠ g ∧ a.block < (y1.setCell ⟨g, 16, none⟩ (.slice wp n wc)).heap.size)) := by
    have ks : Kp (fun b => b = g) y1 (y1.setCell ⟨g, 16, none⟩ (.slice wp n wc)) := (Kp.refl (fun b => b = g) y1).setCell (fun _ => rfl) _
    have h1 := HKW.out
    have h2 := h1.1.size
    have h3 := ks.size
    have hap : ∀ a, wp = some a → y.heap.size ≤ a.block ∧ a.block < y1.heap.size := fun a ha => by
      exact ⟨(hwp a ha).1, (ownBlock_lt hown (hwp a ha).2).2⟩
    refine ⟨l5.set1 16 _ (show 16 < 19 by omega), (h1.1.trans k1 (fun _ _ e => e)).trans ks (fun b hb e => by omega), hrb.keep ks (fun a ha _ e => by have := hap a ha; omega), hwc, fun a ha => ?_⟩
    have := hap a ha
    exact ⟨by omega, by omega, by omega⟩
  clear l5 hown hrb hwp hwc k1 HLy HC hb3 d1
  go_wp2
  go_ret2
  exact ⟨g, wp, wc, rfl, HF.out.2.1, by have := HKW.out; omega, HF.out.1, HF.out.2.2.1, HF.out.2.2.2.1, HF.out.2.2.2.2⟩
end Go.Proofs.YtmncocmeafcpfaaDoor
