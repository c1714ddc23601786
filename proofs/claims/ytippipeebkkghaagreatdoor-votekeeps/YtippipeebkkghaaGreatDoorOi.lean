/- frame.ReadCmd. -/
import Derived.Test.YtippipeebkkghaaGreatDoorOh
namespace Go.Proofs.YtippipeebkkghaaGreatDoor
set_option linter.unusedVariables false
set_option linter.unusedSimpArgs false
open Go.RowKit Go.Deep

theorem Rb.blk {w : World} {p : Option Addr} {n : Nat} {xs : List Nat} (h : Rb w p n xs) (a : Addr) (ha : p = some a) (hn : 0 < n) : a.block < w.heap.size := by
  obtain ⟨b, o, e, hc⟩ := h.pt hn
  rw [ha] at e
  injection e with e
  subst e
  exact World.block_lt_of_cell? _ _ (hc 0 hn)

set_option maxRecDepth 100000 in
set_option maxHeartbeats 3200000 in
theorem readcmd_ok (p : Option Addr) (n cap : Nat) (xs : List Nat) (w : World) (h : Rb w p n xs) (hnc : n ≤ cap) (hcap : (cap : Int) ≤ 9223372036854775807) : Calls Tryz.prog 68 #[.slice p n cap] w fun e w' => AtRes xs w e w' ∧ Kp (fun _ => False) w w' := by
  obtain ⟨h2, hh2⟩ : ∃ x, x = w.heap.size := ⟨_, rfl⟩
  obtain ⟨r, hr⟩ : ∃ x, x = w.heap.size + 1 := ⟨_, rfl⟩
  have HKa : Hid (∀ u, u = (w.alloc (.cells zeroC 31)).alloc (.cells #[.slice p n cap] 213) → Kp (fun _ => False) w u ∧ Lv u h2 zeroC.toList ∧ Cu (fun b => b < w.heap.size) u r xs ∧ u.heap.size = w.heap.size + 2) := fun u hu => by
    have z1 : (w.alloc (.cells zeroC 31)).heap.size = w.heap.size + 1 := by simp
    have k0 : Kp (fun _ => False) w u := by rw [hu]; exact ((Kp.refl _ _).alloc _).alloc _
    have hl : Lv u r [.slice p n cap] := by rw [hu, hr, ← z1]; exact Lv.new _ _ _
    exact ⟨k0, by rw [hu, hh2]; exact (Lv.new w _ _).keep ((Kp.refl (fun _ => False) _).alloc _) id, ⟨p, n, cap, hl.cell (j := 0) rfl, hl.fz (show 0 < 1 by omega), hnc, hcap, h.keep0 k0, fun a ha hp => by have := h.blk a ha hp; exact ⟨by omega, this⟩⟩, by rw [hu]; simp⟩
  have HB : Hid (∀ x ∈ xs, x < 256) := h.byte
  have hmf : ∀ (fn : Fn) (first cap : Array Value) (w : World), (Instr.makeFunc fn first cap).run Tryz.prog w = .ok (.func fn first cap) w := fun _ _ _ _ => rfl
  have HO : Hid (h2 = w.heap.size ∧ r = w.heap.size + 1) := ⟨hh2, hr⟩
  clear h hnc hcap
  go_enter Tryz.func68, Tryz.ntmps68
  go_wp2_with fail
  obtain ⟨u, hu⟩ : ∃ x, x = (w.alloc (.cells zeroC 31)).alloc (.cells #[.slice p n cap] 213) := ⟨_, rfl⟩
  obtain ⟨k0, l0, c0, z0⟩ := HKa.out u hu
  rw [show (w.alloc (.cells #[.int .i64 0, .int .i64 0, .string ⟨#[]⟩, .int .i64 0, .int .i64 0, .int .i64 0, .int .i64 0, .int .i64 0, .int .u32 0, .int .i64 0, .int .i64 0, .slice none 0 0] 31)).alloc (.cells #[.slice p n cap] 213) = u from hu.symm, ← hr, ← hh2]
  clear hu hr hh2 HKa
  have HL0 : Hid (Lv u h2 zeroC.toList) := l0
  have HK0 : Hid (Kp (fun _ => False) w u) := k0
  have HU : Hid (u.heap.size = w.heap.size + 2) := z0
  have HA : Hid (Calls _ _ _ u _) := attempt_ok r xs u c0 HB.out (fun b hb => by have := HU.out; omega)
  clear k0 l0 c0 z0
  refine HA.out.mono ?_
  rintro e9 w1 ⟨hq, k1⟩
  have HK1 : Hid (Kp (fun _ => False) w w1) := HK0.out.trans k1 (fun b hb e => by have := HO.out; omega)
  have HL1 : Hid (Lv w1 h2 zeroC.toList) := HL0.out.keep k1 (fun e => by have := HO.out; omega)
  clear k1 HA
  unfold AtRes at hq
  have HR : Hid (∃ (xa : Array Value) (x : Int), e9 = .returned (.tuple #[.agg xa, .int .i64 x]) ∧ xa.toList.length = 12 ∧ xa.toList.toArray.all (·.oneCell') = true ∧ ∀ w2, Kp (fun b => b = h2) w1 w2 → AtRes xs w (.returned (.tuple #[.agg xa, .int .i64 x])) w2) := by
    cases hm : okC xs with
    | none =>
      rw [hm] at hq
      exact ⟨zeroC, 51, hq, rfl, cmd_one ⟨0, 0, ⟨#[]⟩, 0, 0, 0, 0, 0, 0, 0, 0⟩ (v := .slice none 0 0) rfl, fun w2 k => by unfold AtRes; rw [hm]⟩
    | some c =>
      rw [hm] at hq
      obtain ⟨q, cq, he, hfl⟩ := hq
      refine ⟨_, 0, he, rfl, cmd_one _ rfl, fun w2 k => ?_⟩
      unfold AtRes
      rw [hm]
      refine ⟨q, cq, rfl, (hfl.keep k (fun b hb e => by have := HO.out; have := HU.out; omega)).mono (fun b hb => ⟨by have := HU.out; omega, Nat.lt_of_lt_of_le hb.2 k.size⟩)⟩
  obtain ⟨xa, x, he, hl, h1, hA⟩ := HR.out
  subst he
  have HXl : Hid (xa.toList.length = 12) := hl
  have HX1 : Hid (xa.toList.toArray.all (·.oneCell') = true) := h1
  have HA : Hid (∀ w2, Kp (fun b => b = h2) w1 w2 → AtRes xs w (.returned (.tuple #[.agg xa, .int .i64 x])) w2) := hA
  clear hq HR hl h1 hA
  go_wp2_with (refine wpList_store_all rfl 31 _ _ rfl 12 h2 zeroC.toList xa.toList rfl (by rw [Array.toArray_toList]; rfl) HL1.out szCmd rfl HXl.out HX1.out ?_; intro w2 hl2 k2)
  refine bodyPost_ret (res_cell_tmp Tryz.results68 _ _ h2 _ rfl (hl2.load dsCmd szCmd HXl.out)) rfl ?_
  refine ⟨?_, HK1.out.trans k2 (fun b hb e => by have := HO.out; omega)⟩
  have := HA.out w2 k2
  rw [Array.toArray_toList]
  exact this
end Go.Proofs.YtippipeebkkghaaGreatDoor
