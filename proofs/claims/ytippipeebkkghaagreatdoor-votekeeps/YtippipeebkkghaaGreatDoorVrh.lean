/- The reference's log: the first head is written (laid by scripts/mkvrh.py behind mkvrg.py). -/
import Derived.Test.YtippipeebkkghaaGreatDoorVrf
import Derived.Test.YtippipeebkkghaaGreatDoorVrg
namespace Go.Proofs.YtippipeebkkghaaGreatDoor
set_option linter.unusedVariables false
set_option linter.unusedSimpArgs false
open Go.RowKit Go.Deep Go.Maps

set_option maxRecDepth 100000 in
set_option maxHeartbeats 6400000 in
theorem xhead_ok {w : World} {wx x tb tw td n : Nat} {Bf Wf : Nat → List Nat} {df : Nat → Bool} {Y : Nat → Prop} (h : Rp w x tb tw td n Bf Wf df Y) (hY : ∀ z, Y z → z < w.heap.size) (hn2 : 2 ≤ n) (o1 o2 o3 o4 nx us : Value) (L : Lv w wx [.pointer (some ⟨x, 0, none⟩), o1, o2, o3, o4, nx, us]) (hYw : Y wx) (hwx : wx ≠ x ∧ wx ≠ tb ∧ wx ≠ tw ∧ wx ≠ td) :
    Calls Tryz.prog 115 #[.pointer (some ⟨wx, 0, none⟩), .agg #[.int .i64 1, .int .i64 1, .int .i64 0, .int .i64 1]] w fun e w' => e = .returned (.tuple #[]) ∧ Kp (fun z => z = tb ∨ z = tw ∨ z = td ∨ z = wx) w w' ∧ (∃ Bf' Wf' df', Rp w' x tb tw td n Bf' Wf' df' Y) ∧ Lv w' wx [.pointer (some ⟨x, 0, none⟩), .int .i64 1, .int .i64 1, .int .i64 0, .int .i64 1, nx, us] := by
  have hlt := h.lt
  have hwl : wx < w.heap.size := L.lt (by simp)
  obtain ⟨h0, hh0⟩ : ∃ y, y = w.heap.size := ⟨_, rfl⟩
  obtain ⟨w0, hw0⟩ : ∃ y, y = w.alloc (.cells #[.int .i64 1, .int .i64 1, .int .i64 0, .int .i64 1] 218) := ⟨_, rfl⟩
  have k0 : Kp (fun _ => False) w w0 := by rw [hw0]; exact (Kp.refl _ _).alloc _
  have l0 : Lv w0 h0 [.int .i64 1, .int .i64 1, .int .i64 0, .int .i64 1] := by rw [hw0, hh0]; exact Lv.new _ _ _
  have HA : Hid (h0 = w.heap.size ∧ (x < w.heap.size ∧ tb < w.heap.size ∧ tw < w.heap.size ∧ td < w.heap.size) ∧ wx < w.heap.size ∧ (wx ≠ x ∧ wx ≠ tb ∧ wx ≠ tw ∧ wx ≠ td)) := ⟨hh0, hlt, hwl, hwx⟩
  have HY : Hid ((∀ z, Y z → z < w.heap.size) ∧ Y wx ∧ ((1 : Nat) : Int) < (n : Int)) := ⟨hY, hYw, by omega⟩
  -- what each step keeps
  obtain ⟨St, hSt⟩ : ∃ St : World → Prop, St = fun u => Kp (fun z => z = tb ∨ z = tw ∨ z = td) w u ∧ (∃ Bf' Wf' df', Rp u x tb tw td n Bf' Wf' df' Y) ∧ Lv u h0 [.int .i64 1, .int .i64 1, .int .i64 0, .int .i64 1] ∧ Lv u wx [.pointer (some ⟨x, 0, none⟩), o1, o2, o3, o4, nx, us] := ⟨_, rfl⟩
  have HSt : Hid (St = fun u => Kp (fun z => z = tb ∨ z = tw ∨ z = td) w u ∧ (∃ Bf' Wf' df', Rp u x tb tw td n Bf' Wf' df' Y) ∧ Lv u h0 [.int .i64 1, .int .i64 1, .int .i64 0, .int .i64 1] ∧ Lv u wx [.pointer (some ⟨x, 0, none⟩), o1, o2, o3, o4, nx, us]) := hSt
  have HS0 : Hid (St w0) := by
    show St w0
    rw [hSt]
    exact ⟨k0.mono (fun _ _ e => e.elim), ⟨_, _, _, h.keep k0 (fun _ e => e.elim) id id id id⟩, l0, L.keep k0 id⟩
  have HKp : Hid (∀ u u', St u → Kp (fun _ => False) u u' → St u') := fun u u' hs k => by
    rw [hSt] at hs ⊢
    obtain ⟨a1, ⟨b1, b2, b3, b4⟩, a3, a4⟩ := hs
    exact ⟨a1.trans k (fun _ _ e => e.elim), ⟨b1, b2, b3, b4.keep k (fun _ e => e.elim) id id id id⟩, a3.keep k id, a4.keep k id⟩
  have HCs : Hid (∀ u, St u → u.cell? ⟨wx, 0, none⟩ = some (.pointer (some ⟨x, 0, none⟩)) ∧ u.cell? ⟨h0, 0, none⟩ = some (.int .i64 1) ∧ u.cell? ⟨h0, 1, none⟩ = some (.int .i64 1) ∧ u.cell? ⟨h0, 2, none⟩ = some (.int .i64 0) ∧ u.cell? ⟨h0, 3, none⟩ = some (.int .i64 1)) := fun u hs => by
    rw [hSt] at hs
    obtain ⟨_, _, a3, a4⟩ := hs
    exact ⟨a4.cell (j := 0) rfl, a3.cell (j := 0) rfl, a3.cell (j := 1) rfl, a3.cell (j := 2) rfl, a3.cell (j := 3) rfl⟩
  have HWr : Hid (∀ u, St u → ∀ (p : Option Addr) (c : Nat) (xs : List Nat), Rb u p 64 xs → Calls Tryz.prog 159 #[.pointer (some ⟨x, 0, none⟩), .int .i64 1, .slice p 64 c] u fun e u' => e = .returned (.int .i64 0) ∧ St u') := fun u hs p c xs hx => by
    have hs' := hs
    rw [hSt] at hs'
    obtain ⟨a1, ⟨b1, b2, b3, b4⟩, a3, a4⟩ := hs'
    refine (refWrite_ok b4 (fun z hz => Nat.lt_of_lt_of_le (HY.out.1 z hz) a1.size) 1 HY.out.2.2 p c xs hx).mono ?_
    rintro e u' ⟨rfl, k, hr⟩
    refine ⟨rfl, ?_⟩
    rw [hSt]
    have hA := HA.out
    exact ⟨a1.trans k (fun z _ e => Or.inr e), ⟨_, _, _, hr⟩, a3.keep k (fun e => by rcases e with e | e <;> omega), a4.keep k (fun e => by rcases e with e | e; exact hA.2.2.2.2.2.1 e; exact hA.2.2.2.2.2.2 e)⟩
  have HSy : Hid (∀ u, St u → Calls Tryz.prog 160 #[.pointer (some ⟨x, 0, none⟩)] u fun e u' => e = .returned (.int .i64 0) ∧ St u') := fun u hs => by
    have hs' := hs
    rw [hSt] at hs'
    obtain ⟨a1, ⟨b1, b2, b3, b4⟩, a3, a4⟩ := hs'
    refine (refSync_ok b4 (fun z hz => Nat.lt_of_lt_of_le (HY.out.1 z hz) a1.size)).mono ?_
    rintro e u' ⟨rfl, k, hr⟩
    refine ⟨rfl, ?_⟩
    rw [hSt]
    have hA := HA.out
    exact ⟨a1.trans k (fun z _ e => e), ⟨_, _, _, hr⟩, a3.keep k (fun e => by rcases e with e | e | e <;> omega), a4.keep k (fun e => by rcases e with e | e | e; exact hA.2.2.2.2.1 e; exact hA.2.2.2.2.2.1 e; exact hA.2.2.2.2.2.2 e)⟩
  have HBy : Hid (∀ u, St u → Calls Tryz.prog 158 #[.agg #[.int .i64 1, .int .i64 1, .int .i64 0, .int .i64 1]] u fun e u' => ∃ p c xs, e = .returned (.slice p 64 c) ∧ St u' ∧ Rb u' p 64 xs) := fun u hs => by
    refine (xhbytes_ok u 1 1 0 1 (fun n hn => by simp at hn; omega)).mono ?_
    rintro e u' ⟨v, rfl, k, o⟩
    obtain ⟨p, c, rfl, _, hr, _⟩ := o.rb (sealX_byte hdX_byte)
    have hl : (sealX (hdX [1, 1, 0, 1])).length = 64 := sealX_len (by show (_ :: _).length ≤ 59; rw [List.length_cons, hdX_len]; decide)
    rw [hl] at hr ⊢
    exact ⟨p, c, _, rfl, HKp.out u u' hs k, hr⟩
  have hmk : ∀ w : World, (Instr.makeSlice 75 (.int .i64 64) (.int .i64 64)).run Tryz.prog w = .ok (.slice (some ⟨w.heap.size, 0, none⟩) 64 64) (w.alloc (.cells (madeCells #[.int .u8 0] 64) 5)) := fun w => run_make_row' (P := Tryz.prog) 75 5 (.int .u8 0) 1 Tryz.underlying75 info5 rfl .i64 .i64 64 (by omega) (by omega) w
  clear h hY L hYw hwx hlt hwl k0 l0 hSt hn2
  go_enter Tryz.func115, Tryz.ntmps115
  go_upto_region 1 with fail
  rw [← hw0, ← hh0]
  clear hw0 hh0
  have kd : Kp (fun _ => False) w0 w0.drew := (Kp.refl _ _).drew
  have hs1 := HKp.out _ _ HS0.out kd
  have ka : Kp (fun _ => False) w0.drew (w0.drew.alloc (.cells (madeCells #[.int .u8 0] 64) 5)) := (Kp.refl _ _).alloc _
  have hs2 := HKp.out _ _ hs1 ka
  obtain ⟨q0, c0, e0, _, hr0, _⟩ := (made_ow w0.drew).rb (fun x hx => by rw [List.eq_of_mem_replicate hx]; omega)
  rw [List.length_replicate] at e0 hr0
  cases e0
  refine hw1_region ⟨by kernel_rfl, by kernel_rfl, by kernel_rfl, by kernel_rfl, by kernel_rfl, by kernel_rfl, by kernel_rfl, by kernel_rfl, by kernel_rfl, by kernel_rfl, by kernel_rfl, by kernel_rfl, by kernel_rfl, by kernel_rfl, by kernel_rfl⟩ wx x h0 w0.heap.size _ (fun d _ _ _ _ h => by cases d <;> exact h) (by rfl) (by rfl) (by rfl) (HCs.out _ hs1) (hmk w0.drew) (HCs.out _ hs2) St ((HWr.out _ hs2 _ 64 _ hr0).mono (fun e u' hh => ⟨hh.1, HCs.out _ hh.2, hh.2⟩)) ?_
  intro w2 hs3
  have HS2 : Hid (St w2) := hs3
  have z2 := (HCs.out _ hs3).1
  clear kd hs1 ka hs2 hr0 hs3 HS0
  simp only [Act.put, List.setIfInBounds_toArray, List.set_cons_succ, List.set_cons_zero]
  have HC2 : Hid (Calls _ _ _ w2 _) := HSy.out w2 HS2.out
  go_wp2_with fail
  refine HC2.out.mono ?_
  rintro e9 w3 ⟨rfl, hs3⟩
  have HS3 : Hid (St w3) := hs3
  clear hs3 HC2 HS2 z2
  go_upto_region 3 with fail
  have kd : Kp (fun _ => False) w3 w3.drew := (Kp.refl _ _).drew
  have hs1 := HKp.out _ _ HS3.out kd
  refine hw3_region ⟨by kernel_rfl, by kernel_rfl, by kernel_rfl, by kernel_rfl, by kernel_rfl, by kernel_rfl, by kernel_rfl, by kernel_rfl, by kernel_rfl, by kernel_rfl, by kernel_rfl, by kernel_rfl, by kernel_rfl, by kernel_rfl, by kernel_rfl, by kernel_rfl⟩ wx x h0 undef (fun d _ _ _ _ h => by cases d <;> exact h) (by rfl) (by rfl) (by rfl) (HCs.out _ hs1) St ((HBy.out _ hs1).mono (fun e u' hh => by
    obtain ⟨p, c, xs, rfl, hs, hr⟩ := hh
    exact ⟨_, rfl, HCs.out _ hs, (HWr.out _ hs p c xs hr).mono (fun e u' hh => ⟨hh.1, HCs.out _ hh.2, hh.2⟩)⟩)) ?_
  intro v1 w4 hs4
  have HS4 : Hid (St w4) := hs4
  have z4 := (HCs.out _ hs4).1
  clear kd hs1 hs4 HS3
  simp only [Act.put, List.setIfInBounds_toArray, List.set_cons_succ, List.set_cons_zero]
  have HC4 : Hid (Calls _ _ _ w4 _) := HSy.out w4 HS4.out
  go_wp2_with fail
  refine HC4.out.mono ?_
  rintro e9 w5 ⟨rfl, hs5⟩
  rw [HSt.out] at hs5
  obtain ⟨k5, ⟨B5, W5, d5, r5⟩, l5, m5⟩ := hs5
  have HS5 : Hid (Kp (fun z => z = tb ∨ z = tw ∨ z = td) w w5 ∧ Rp w5 x tb tw td n B5 W5 d5 Y) := ⟨k5, r5⟩
  have HL5 : Hid (Lv w5 h0 [.int .i64 1, .int .i64 1, .int .i64 0, .int .i64 1]) := l5
  have HM5 : Hid (Lv w5 wx [.pointer (some ⟨x, 0, none⟩), o1, o2, o3, o4, nx, us]) := m5
  clear k5 r5 l5 m5 HC4 HS4 z4
  go_wp2_with (first
    | (refine wpList_load_all rfl 218 _ rfl 4 h0 [.int .i64 1, .int .i64 1, .int .i64 0, .int .i64 1] rfl HL5.out dsHd szHd rfl ?_)
    | (refine wpList_store_sub rfl 218 _ _ rfl 4 wx 1 [.pointer (some ⟨x, 0, none⟩), o1, o2, o3, o4, nx, us] [.int .i64 1, .int .i64 1, .int .i64 0, .int .i64 1] [.pointer (some ⟨x, 0, none⟩), .int .i64 1, .int .i64 1, .int .i64 0, .int .i64 1, nx, us] rfl rfl HM5.out szHd rfl (by simp) (hd_one 1 1 0 1) rfl ?_; intro w6 l6 k6))
  have HF : Hid (Kp (fun z => z = tb ∨ z = tw ∨ z = td ∨ z = wx) w w6 ∧ (∃ Bf' Wf' df', Rp w6 x tb tw td n Bf' Wf' df' Y) ∧ Lv w6 wx [.pointer (some ⟨x, 0, none⟩), .int .i64 1, .int .i64 1, .int .i64 0, .int .i64 1, nx, us]) := by
    have hA := HA.out
    refine ⟨(HS5.out.1.mono (S' := fun z => z = tb ∨ z = tw ∨ z = td ∨ z = wx) (fun z _ e => by rcases e with e | e | e; exact Or.inl e; exact Or.inr (Or.inl e); exact Or.inr (Or.inr (Or.inl e)))).trans k6 (fun z _ e => Or.inr (Or.inr (Or.inr e))), ⟨B5, W5, d5, HS5.out.2.keep k6 (fun z e => by have e' : z = wx := e; rw [e']; exact HY.out.2.1) (fun e => hA.2.2.2.1 (Eq.symm e)) (fun e => hA.2.2.2.2.1 (Eq.symm e)) (fun e => hA.2.2.2.2.2.1 (Eq.symm e)) (fun e => hA.2.2.2.2.2.2 (Eq.symm e))⟩, l6⟩
  clear k6 l6
  go_wp2_with fail
  go_end0
  exact ⟨rfl, HF.out⟩
end Go.Proofs.YtippipeebkkghaaGreatDoor
