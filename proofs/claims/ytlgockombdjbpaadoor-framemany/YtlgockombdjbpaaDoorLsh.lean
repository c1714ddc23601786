/- The walk of the law FrameShort: of a frame each beginning is too short. -/
import Derived.Test.YtlgockombdjbpaaDoorFp
import Derived.Test.YtlgockombdjbpaaDoorLfu1
namespace Go.Proofs.YtlgockombdjbpaaDoor
open Go.RowKit Go.Deep

theorem rem_form (a : Int) (F m : Nat) (hF : (0 : Int) < (F : Int)) (hb : (F : Int) ≤ 3000) (hm : (m : Int) = (a % 18446744073709551616) % (F : Int)) : wrap64 ((IntKind.u64.wrap a).tmod (F : Int)) = (m : Int) := by
  have e : IntKind.u64.wrap a = a % 18446744073709551616 := by simp [IntKind.wrap, IntKind.bits, IntKind.signed]
  rw [e, Int.tmod_eq_emod_of_nonneg (Int.emod_nonneg _ (by omega)), ← hm]
  have := Int.emod_lt_of_pos (a % 18446744073709551616) hF
  unfold wrap64
  omega
theorem rb_lit1 (w : World) (x : Nat) (hx : x < 256) : Rb (w.alloc (.cells #[.int .u8 (x : Int)] 5)) (some ⟨w.heap.size, 0, none⟩) 1 [x] := by
  have := rb_new w [x] (fun y hy => by simp only [List.mem_cons, List.not_mem_nil, or_false] at hy; omega)
  simpa [vl] using this
theorem Rb.first {w : World} {p : Option Addr} {n : Nat} {xs : List Nat} (h : Rb w p n xs) {r : Nat} (hr : r ≤ n) : Rb w p r (xs.take r) :=
  ⟨by rw [List.length_take, h.len]; omega, fun x hx => h.byte x (List.mem_of_mem_take hx), fun j hj => by
    obtain ⟨b, o, e, hc⟩ := h.cell j (by omega)
    refine ⟨b, o, e, ?_⟩
    rw [hc]
    congr 3
    rw [List.getD_eq_getElem?_getD, List.getD_eq_getElem?_getD, List.getElem?_take_of_lt hj]⟩

set_option maxRecDepth 100000 in
set_option maxHeartbeats 1600000 in
theorem frameShort_walkA (p : Option Addr) (n c : Nat) (xs : List Nat) (a : Int) (w : World) (h : Rb w p n xs) (hc : n ≤ c) (_hn : Hid (n ≤ 140737488355328)) (ht : Turns w) (hle : (n : Int) ≤ 2000) :
    Calls Tryd.prog 6 #[.slice p n c, .int .i64 a] w fun e w' => e = .returned (.bool true) ∧ Kp (fun _ => False) w w' := by
  have HX : Hid ((xs.take n).length = n) := by show _ = _; rw [List.length_take, h.len]; omega
  have HB : Hid (∀ x ∈ xs.take n ++ [1], x < 256) := fun x hx => by
    rcases List.mem_append.1 hx with hx | hx
    · exact h.byte x (List.mem_of_mem_take hx)
    · simp only [List.mem_cons, List.not_mem_nil, or_false] at hx; omega
  have HR0 : Hid (Rb w p n (xs.take n)) := h.first (by omega)
  clear h
  go_enter Tryd.func6, Tryd.ntmps6
  go_wp2_with fail
  refine (clone_any p n c (xs.take n) w HR0.out (by show _ ≤ _; omega)).mono ?_
  rintro e w1 ⟨v1, rfl, k1, o1⟩
  have HO1 : Hid (Ow (w1.alloc (.cells #[.int .u8 1] 5)) w.heap.size v1 (xs.take n)) := World.ownsRow.alloc o1 _
  have k1' := k1.alloc (.cells #[.int .u8 1] 5)
  clear o1
  go_wp2_with (at_builtin; refine wpList_append_bytes _ rfl _ _ rfl w.heap.size v1 (xs.take n) rfl HO1.out (some ⟨w1.heap.size, 0, none⟩) 1 1 [1] rfl (rb_lit1 w1 1 (by omega)) (by have := HX.out; omega) k1'.size ?_
               intro v2 w2 o2 hk2 hb2)
  have k2 := Kp.app k1' HO1.out hk2
  obtain ⟨ys, hys⟩ : ∃ ys, ys = xs.take n ++ [1] := ⟨_, rfl⟩
  rw [← hys] at o2 HB
  have HY : Hid (ys.length = n + 1) := by show _ = _; rw [hys, List.length_append, HX.out]; rfl
  clear hys HX HO1 hk2 hb2
  obtain ⟨p2, c2, rfl, hc2, r2, _⟩ := o2.rb HB.out
  refine (wrap_yes p2 _ c2 ys w2 r2 (by have := HY.out; omega) (by have := HY.out; omega) (ht.keep0 k2)).mono ?_
  rintro e w3 ⟨v3, rfl, k3, o3⟩
  have k03 := k2.trans k3 (fun _ _ e => e)
  obtain ⟨p3, c3, rfl, hc3, r3, _⟩ := o3.rb (frm_byte HB.out (by have := HY.out; omega))
  obtain ⟨F, hF⟩ : ∃ F, F = (frm ys).length := ⟨_, rfl⟩
  have HF : Hid (F = ys.length + 7) := by show _ = _; rw [hF, frm_length]
  rw [← hF] at hc3 r3 ⊢
  have hF0 : ((F : Int) == 0) = false := by rw [beq_eq_false_iff_ne]; have := HF.out; omega
  have hFp : (0 : Int) < (F : Int) := by have := HF.out; omega
  have hFb : (F : Int) ≤ 3000 := by have := HF.out; have := HY.out; omega
  obtain ⟨m, hm⟩ : ∃ m : Nat, (m : Int) = (a % 18446744073709551616) % (F : Int) := ⟨((a % 18446744073709551616) % (F : Int)).toNat, by
    rw [Int.toNat_of_nonneg (Int.emod_nonneg _ (by omega))]⟩
  have hm2 : wrap64 ((IntKind.u64.wrap a).tmod (F : Int)) = (m : Int) := rem_form a F m hFp hFb hm
  have hmF : m < F := by have := Int.emod_lt_of_pos (a % 18446744073709551616) hFp; omega
  have HM : Hid (lkE ((frm ys).take m) = 50) := lk_short ys (by have := HY.out; omega) m (by omega)
  have s3 := slice_first p3 F c3 m (by omega)
  have HR4 : Hid (Rb w3 p3 m ((frm ys).take m)) := r3.first (by omega)
  have HC3 : Hid (m ≤ c3) := by show _ ≤ _; omega
  clear r3 o3 r2 o2 hF hm
  go_wp2_with fail
  refine (unwrap_any p3 m c3 _ w3 HR4.out HC3.out (by show _ ≤ _; have := HF.out; have := HY.out; omega) (ht.keep0 k03)).mono ?_
  rintro e w4 ⟨v4, v5, rfl, k4, o4, o5⟩
  obtain ⟨e1, e2⟩ := un_bad (xs := (frm ys).take m) (by rw [HM.out]; omega)
  rw [e1] at o4
  rw [e2] at o5
  rw [HM.out]
  obtain ⟨p4, c4, rfl, _, _, _⟩ := o4.rb (fun _ h => by cases h)
  obtain ⟨p5, c5, rfl, _, _, _⟩ := o5.rb (fun _ h => by cases h)
  clear e1 e2 o4 o5 hm2 s3 hF0
  go_wp2
  go_ret
  exact ⟨rfl, k03.trans k4 (fun _ _ e => e)⟩


set_option maxRecDepth 100000 in
set_option maxHeartbeats 1600000 in
theorem frameShort_walkB (p : Option Addr) (n c : Nat) (xs : List Nat) (a : Int) (w : World) (h : Rb w p n xs) (hc : n ≤ c) (_hn : Hid (n ≤ 140737488355328)) (ht : Turns w) (hle : (2000 : Int) < (n : Int)) :
    Calls Tryd.prog 6 #[.slice p n c, .int .i64 a] w fun e w' => e = .returned (.bool true) ∧ Kp (fun _ => False) w w' := by
  have HX : Hid ((xs.take 2000).length = 2000) := by show _ = _; rw [List.length_take, h.len]; omega
  have HB : Hid (∀ x ∈ xs.take 2000 ++ [1], x < 256) := fun x hx => by
    rcases List.mem_append.1 hx with hx | hx
    · exact h.byte x (List.mem_of_mem_take hx)
    · simp only [List.mem_cons, List.not_mem_nil, or_false] at hx; omega
  have HR0 : Hid (Rb w p 2000 (xs.take 2000)) := h.first (by omega)
  clear h
  go_enter Tryd.func6, Tryd.ntmps6
  go_wp2_with fail
  refine (clone_any p 2000 c (xs.take 2000) w HR0.out (by show _ ≤ _; omega)).mono ?_
  rintro e w1 ⟨v1, rfl, k1, o1⟩
  have HO1 : Hid (Ow (w1.alloc (.cells #[.int .u8 1] 5)) w.heap.size v1 (xs.take 2000)) := World.ownsRow.alloc o1 _
  have k1' := k1.alloc (.cells #[.int .u8 1] 5)
  clear o1
  go_wp2_with (at_builtin; refine wpList_append_bytes _ rfl _ _ rfl w.heap.size v1 (xs.take 2000) rfl HO1.out (some ⟨w1.heap.size, 0, none⟩) 1 1 [1] rfl (rb_lit1 w1 1 (by omega)) (by have := HX.out; omega) k1'.size ?_
               intro v2 w2 o2 hk2 hb2)
  have k2 := Kp.app k1' HO1.out hk2
  obtain ⟨ys, hys⟩ : ∃ ys, ys = xs.take 2000 ++ [1] := ⟨_, rfl⟩
  rw [← hys] at o2 HB
  have HY : Hid (ys.length = 2000 + 1) := by show _ = _; rw [hys, List.length_append, HX.out]; rfl
  clear hys HX HO1 hk2 hb2
  obtain ⟨p2, c2, rfl, hc2, r2, _⟩ := o2.rb HB.out
  refine (wrap_yes p2 _ c2 ys w2 r2 (by have := HY.out; omega) (by have := HY.out; omega) (ht.keep0 k2)).mono ?_
  rintro e w3 ⟨v3, rfl, k3, o3⟩
  have k03 := k2.trans k3 (fun _ _ e => e)
  obtain ⟨p3, c3, rfl, hc3, r3, _⟩ := o3.rb (frm_byte HB.out (by have := HY.out; omega))
  obtain ⟨F, hF⟩ : ∃ F, F = (frm ys).length := ⟨_, rfl⟩
  have HF : Hid (F = ys.length + 7) := by show _ = _; rw [hF, frm_length]
  rw [← hF] at hc3 r3 ⊢
  have hF0 : ((F : Int) == 0) = false := by rw [beq_eq_false_iff_ne]; have := HF.out; omega
  have hFp : (0 : Int) < (F : Int) := by have := HF.out; omega
  have hFb : (F : Int) ≤ 3000 := by have := HF.out; have := HY.out; omega
  obtain ⟨m, hm⟩ : ∃ m : Nat, (m : Int) = (a % 18446744073709551616) % (F : Int) := ⟨((a % 18446744073709551616) % (F : Int)).toNat, by
    rw [Int.toNat_of_nonneg (Int.emod_nonneg _ (by omega))]⟩
  have hm2 : wrap64 ((IntKind.u64.wrap a).tmod (F : Int)) = (m : Int) := rem_form a F m hFp hFb hm
  have hmF : m < F := by have := Int.emod_lt_of_pos (a % 18446744073709551616) hFp; omega
  have HM : Hid (lkE ((frm ys).take m) = 50) := lk_short ys (by have := HY.out; omega) m (by omega)
  have s3 := slice_first p3 F c3 m (by omega)
  have HR4 : Hid (Rb w3 p3 m ((frm ys).take m)) := r3.first (by omega)
  have HC3 : Hid (m ≤ c3) := by show _ ≤ _; omega
  clear r3 o3 r2 o2 hF hm
  go_wp2_with fail
  refine (unwrap_any p3 m c3 _ w3 HR4.out HC3.out (by show _ ≤ _; have := HF.out; have := HY.out; omega) (ht.keep0 k03)).mono ?_
  rintro e w4 ⟨v4, v5, rfl, k4, o4, o5⟩
  obtain ⟨e1, e2⟩ := un_bad (xs := (frm ys).take m) (by rw [HM.out]; omega)
  rw [e1] at o4
  rw [e2] at o5
  rw [HM.out]
  obtain ⟨p4, c4, rfl, _, _, _⟩ := o4.rb (fun _ h => by cases h)
  obtain ⟨p5, c5, rfl, _, _, _⟩ := o5.rb (fun _ h => by cases h)
  clear e1 e2 o4 o5 hm2 s3 hF0
  go_wp2
  go_ret
  exact ⟨rfl, k03.trans k4 (fun _ _ e => e)⟩


theorem frameShort_walk (p : Option Addr) (n c : Nat) (xs : List Nat) (a : Int) (w : World) (h : Rb w p n xs) (hc : n ≤ c) (hn : Hid (n ≤ 140737488355328)) (_ : (Lit.int .i64 a).wf = true) (ht : Turns w) :
    Calls Tryd.prog 6 #[.slice p n c, .int .i64 a] w fun e w' => e = .returned (.bool true) ∧ Kp (fun _ => False) w w' := by
  by_cases hle : (n : Int) ≤ 2000
  · exact frameShort_walkA p n c xs a w h hc hn ht hle
  · exact frameShort_walkB p n c xs a w h hc hn ht (by omega)
end Go.Proofs.YtlgockombdjbpaaDoor
