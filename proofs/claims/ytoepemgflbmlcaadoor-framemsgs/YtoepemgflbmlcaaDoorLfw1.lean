/- The walk of the law FrameWraps: frames and sums; what is handed in stays. -/
import Derived.Test.YtoepemgflbmlcaaDoorFe
import Derived.Deep.RegionWith
import Derived.Lib.SlBytesConst
namespace Go.Proofs.YtoepemgflbmlcaaDoor
open Go.RowKit Go.Deep

abbrev lit9 : Array Value := #[.int .u8 49, .int .u8 50, .int .u8 51, .int .u8 52, .int .u8 53, .int .u8 54, .int .u8 55, .int .u8 56, .int .u8 57]
theorem rb_lit9 (w : World) : Rb (w.alloc (.cells lit9 5 (9, 10))) (some ⟨w.heap.size, 0, none⟩) 9 [49, 50, 51, 52, 53, 54, 55, 56, 57] :=
  ⟨rfl, fun x hx => by simp only [List.mem_cons, List.not_mem_nil, or_false] at hx; omega, fun j hj => ⟨w.heap.size, 0, rfl, by
    have hh : (w.alloc (.cells lit9 5 (9, 10))).heap[w.heap.size]? = _ := heap_alloc_new w _
    rw [Nat.zero_add]
    unfold World.cell?
    simp only [hh]
    have hj' : j = 0 ∨ j = 1 ∨ j = 2 ∨ j = 3 ∨ j = 4 ∨ j = 5 ∨ j = 6 ∨ j = 7 ∨ j = 8 := by omega
    rcases hj' with rfl | rfl | rfl | rfl | rfl | rfl | rfl | rfl | rfl <;> rfl⟩⟩
theorem sum9 : Crc.sum [49, 50, 51, 52, 53, 54, 55, 56, 57] = 3808858755 := by decide +kernel
theorem rowIs_one (w : World) (v : Value) (t : TypeId) : (w.alloc (.cells #[v] t)).rowIs w.heap.size t 1 (fun _ => v) :=
  ⟨#[v], heap_alloc_new w _, rfl, fun i hi => (by
    obtain rfl : i = 0 := Nat.lt_one_iff.1 hi
    rfl)⟩

set_option maxRecDepth 100000 in
set_option maxHeartbeats 1600000 in
theorem frameWraps_walk (p : Option Addr) (n c : Nat) (xs : List Nat) (w : World) (h : Rb w p n xs) (_ : n ≤ c) (hn : Hid (n ≤ 140737488355328)) (ht : Turns w) :
    Calls Tryd.prog 13 #[.slice p n c] w fun e w' => e = .returned (.bool true) ∧ Kp (fun _ => False) w w' := by
  go_enter Tryd.func13, Tryd.ntmps13
  go_wp2_with fail
  refine (clone_any p n c xs w h hn).mono ?_
  rintro e w1 ⟨v1, rfl, k1, o1⟩
  obtain ⟨p1, c1, rfl, hc1, r1, hb1⟩ := o1.rb h.byte
  go_wp2_with fail
  refine (wrap_any p1 _ c1 xs w1 r1 (ht.keep0 k1)).mono ?_
  rintro e w2 ⟨v2, rfl, k2, o2⟩
  have k12 := k1.trans k2 (fun _ _ e => e)
  go_wp2_with fail
  refine (refWrap_any p n c xs w2 (h.keep0 k12)).mono ?_
  rintro e w3 ⟨v3, rfl, k3, o3⟩
  have k13 := k12.trans k3 (fun _ _ e => e)
  obtain ⟨p2, c2, rfl, hc2, r2, hb2⟩ := o2.rb (wrB_byte h.byte)
  obtain ⟨p3, c3, rfl, hc3, r3, hb3⟩ := o3.rb (wrB_byte h.byte)
  have HEq : Hid (Calls _ _ _ w3 _) := equal_same p2 p3 _ _ c2 c3 (wrB xs) w3 (r2.keep0 k3) r3
  have HL : Hid (xs.length = n) := h.len
  have HS1 : Hid (Calls _ _ _ w3 _) := sum_any p1 _ c1 xs w3 (r1.keep0 (k2.trans k3 (fun _ _ e => e))) (by rw [HL.out]; have := hn.out; omega) (ht.keep0 k13)
  have HS2 : Hid (Calls _ _ _ w3 _) := refSum_any p n c xs w3 (h.keep0 k13) (by have := hn.out; omega)
  go_wp2_with (first
    | (go_at_call 11; refine HEq.out.mono ?_; rintro e w' ⟨rfl, rfl⟩)
    | (go_at_call 36; refine HS1.out.mono ?_; rintro e w' ⟨rfl, rfl⟩)
    | (go_at_call 37; refine HS2.out.mono ?_; rintro e w' ⟨rfl, rfl⟩))
  have hw : Wt (w'.alloc (.cells #[.slice p2 (wrB xs).length c2] 28)) w1.heap.size w'.heap.size (.slice p2 (wrB xs).length c2) :=
    Ow.wt (World.ownsRow.alloc (ownsRow_keep o2 k3 (fun _ _ => id)) _) (by
      unfold wrB; split
      · rw [frm_length]; omega
      · simp) (fun g hg => by have := (ownBlock_lt o2 hg).2; have := k3.size; omega)
  have HSp : Hid (Calls _ _ _ _ _) := spoil_any w1.heap.size w'.heap.size 1 1 (fun _ => .slice p2 (wrB xs).length c2) _ (rowIs_one w' _ _) (fun _ _ => hw) (by omega)
  refine HSp.out.mono ?_
  rintro e w4 ⟨rfl, k4⟩
  have k4' : Kp (fun b => w1.heap.size ≤ b) w' w4 := ((Kp.refl _ _).alloc _).trans k4 (fun _ _ e => e)
  have k14 : Kp (fun b => w1.heap.size ≤ b) w1 w4 := ((k2.trans k3 (fun _ _ e => e)).mono (fun _ _ e => e.elim)).trans k4' (fun _ _ e => e)
  have k14 := k14.fresh
  have k04 := k1.trans k14 (fun _ _ e => e)
  have HEq2 : Hid (Calls _ _ _ w4 _) := equal_same p1 p _ n c1 c xs w4 (r1.keep0 k14) (h.keep0 k04)
  have HSum : Hid (∀ cc, Calls Tryd.prog 36 #[.slice (some ⟨w4.heap.size, 0, none⟩) 9 cc] (w4.alloc (.cells lit9 5 (9, 10))) fun e w' => e = .returned (.int .u32 3808858755) ∧ w' = (w4.alloc (.cells lit9 5 (9, 10)))) := fun cc => by
    have := sum_any (some ⟨w4.heap.size, 0, none⟩) 9 cc _ _ (rb_lit9 w4) (by omega) (ht.keep0 (k04.alloc _))
    rw [sum9] at this
    exact this
  have hcv := Go.Lib.run_convert_bytes_const (P := Tryd.prog) w4 28 5 lit9 9 9 Tryd.underlying28 Tryd.underlying5
  clear HSp hw o2 o3 r2 r3 hb1 hb2 hb3 HEq HS1 HS2 h k4 k14 r1 o1
  go_wp2_with (first
    | (go_at_call 11; refine HEq2.out.mono ?_; rintro e w' ⟨rfl, rfl⟩)
    | (go_at_call 36; refine (HSum.out _).mono ?_; rintro e w' ⟨rfl, rfl⟩))
  go_ret
  exact ⟨rfl, k04.alloc _⟩
end Go.Proofs.YtoepemgflbmlcaaDoor
