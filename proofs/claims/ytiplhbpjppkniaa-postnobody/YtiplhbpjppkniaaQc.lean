/- Copies of messages without lists. -/
import Derived.Test.YtiplhbpjppkniaaQt
namespace Go.Proofs.Ytiplhbpjppkniaa
set_option linter.unusedVariables false
open Go.RowKit Go.Deep Go.Maps

set_option maxRecDepth 100000 in
set_option maxHeartbeats 800000 in
theorem clone_ints_nil (w : World) : Calls Try.prog 41 #[.slice none 0 0] w fun e w' => e = .returned (.slice none 0 0) ∧ w' = w := by
  have hne := fun w => Lib.run_eql_slice_nil (P := Try.prog) w 32 3 none 0 0 0 0 Try.underlying32
  go_enter Try.func41, Try.ntmps41
  go_wp2
  go_ret
  exact ⟨rfl, rfl⟩

set_option maxRecDepth 100000 in
set_option maxHeartbeats 800000 in
theorem clone_votes_nil (w : World) : Calls Try.prog 42 #[.slice none 0 0] w fun e w' => e = .returned (.slice none 0 0) ∧ w' = w := by
  have hne := fun w => Lib.run_eql_slice_nil (P := Try.prog) w 35 65 none 0 0 0 0 Try.underlying35
  go_enter Try.func42, Try.ntmps42
  go_wp2
  go_ret
  exact ⟨rfl, rfl⟩

set_option maxRecDepth 100000 in
set_option maxHeartbeats 800000 in
theorem clone_bytes_nil (w : World) : Calls Try.prog 36 #[.slice none 0 0] w fun e w' => e = .returned (.slice none 0 0) ∧ w' = w := by
  have hne := fun w => Lib.run_eql_slice_nil (P := Try.prog) w 36 5 none 0 0 0 0 Try.underlying36
  go_enter Try.func36, Try.ntmps36
  go_wp2
  go_ret
  exact ⟨rfl, rfl⟩

set_option maxRecDepth 100000 in
set_option maxHeartbeats 800000 in
theorem cl_votes_nil (w : World) : Calls Try.prog 35 #[.slice none 0 0] w fun e w' => e = .returned (.slice none 0 0) ∧ w' = w := by
  have H : Hid (∀ w, Calls _ _ _ w _) := clone_votes_nil
  go_enter Try.func35, Try.ntmps35
  go_wp2_with (go_at_call 42; refine (H.out _).mono ?_; rintro e w' ⟨rfl, hw⟩; obtain rfl := hw.symm; clear hw)
  go_loopg [8] 0 (fun gk i wr => gk = 0 ∧ i = .int .i64 0 ∧ wr = w)
  case atStart => exact ⟨rfl, rfl, rfl⟩
  case round =>
    obtain ⟨rfl, rfl, rfl⟩ := hrel
    go_wp2
    go_ret
    exact ⟨rfl, rfl⟩

theorem sizeCmd : (Try.prog.info? 34).map (·.size) = some 12 := by kernel_rfl
theorem descCmd : ∃ d, Try.prog.underlying 34 = some d ∧ d.isRow = true := ⟨_, Try.underlying34, rfl⟩
abbrev nilC : Array Value := #[.int .i64 0, .int .i64 0, .string ⟨#[]⟩, .int .i64 0, .int .i64 0, .int .i64 0, .int .i64 0, .int .i64 0, .int .u32 0, .int .i64 0, .int .i64 0, .slice none 0 0]
theorem nilC_one : nilC.toList.toArray.all (·.oneCell') = true := all_oneCell_toArray (fun x hx => by simp at hx; rcases hx with rfl | rfl | rfl | rfl | rfl | rfl <;> rfl)

set_option maxRecDepth 100000 in
set_option maxHeartbeats 800000 in
theorem cl_cmd_nil (w : World) : Calls Try.prog 34 #[.agg nilC] w fun e w' => e = .returned (.agg nilC) ∧ Kp (fun _ => False) w w' := by
  have H : Hid (∀ w, Calls _ _ _ w _) := clone_ints_nil
  go_enter Try.func34, Try.ntmps34
  go_wp2_with (go_at_call 41; refine (H.out _).mono ?_; rintro e w' ⟨rfl, hw⟩; obtain rfl := hw.symm; clear hw)
  have hl := Lv.new (w.alloc (.cells nilC 34)) nilC 34
  rw [show (w.alloc (.cells nilC 34)).heap.size = w.heap.size + 1 from by simp] at hl
  refine bodyPost_ret (res_cell Try.results34 _ _ (w.heap.size + 1) _ rfl (hl.load descCmd sizeCmd rfl)) rfl ?_
  exact ⟨rfl, ((Kp.refl _ _).alloc _).alloc _⟩

set_option maxRecDepth 100000 in
set_option maxHeartbeats 1600000 in
theorem cl_msg_nil (i : Int) (w : World) : Calls Try.prog 23 #[nilMsg i] w fun e w' => e = .returned (nilMsg i) ∧ Kp (fun _ => False) w w' := by
  have H1 : Hid (∀ w, Calls _ _ _ w _) := cl_cmd_nil
  have H2 : Hid (∀ w, Calls _ _ _ w _) := cl_votes_nil
  have H3 : Hid (∀ w, Calls _ _ _ w _) := clone_bytes_nil
  go_enter Try.func23, Try.ntmps23
  go_wp2_with fail
  obtain ⟨u, hu⟩ : ∃ x, x = (w.alloc (.cells (nilArr i) 38)).alloc (.cells (nilArr 0) 38) := ⟨_, rfl⟩
  have z1 : (w.alloc (.cells (nilArr i) 38)).heap.size = w.heap.size + 1 := by simp
  have HL1 : Hid (Lv u w.heap.size (nilArr i).toList) := by rw [hu]; exact (Lv.new w _ _).keep ((Kp.refl (fun _ => False) _).alloc _) id
  have HL2 : Hid (Lv u (w.heap.size + 1) (nilArr 0).toList) := by rw [hu, ← z1]; exact Lv.new _ _ _
  have k0 : Kp (fun _ => False) w u := by rw [hu]; exact ((Kp.refl _ _).alloc _).alloc _
  have e0 : (w.alloc (.cells (nilArr i) 38)).alloc (.cells (nilArr 0) 38) = u := hu.symm
  rw [show ((w.alloc (.cells (nilArr i) 38)).alloc (.cells #[.int .i64 0, .int .i64 0, .int .i64 0, .int .i64 0, .int .i64 0, .int .i64 0, .int .i64 0, .int .i64 0, .int .i64 0, .bool false, .int .i64 0, .int .i64 0, .string ⟨#[]⟩, .int .i64 0, .int .i64 0, .int .i64 0, .int .i64 0, .int .i64 0, .int .u32 0, .int .i64 0, .int .i64 0, .slice none 0 0, .slice none 0 0, .slice none 0 0] 38)) = u from e0]
  clear e0 hu z1
  obtain ⟨g, hg⟩ : ∃ g, g = w.heap.size := ⟨_, rfl⟩
  obtain ⟨r, hr⟩ : ∃ r, r = w.heap.size + 1 := ⟨_, rfl⟩
  rw [← hg] at HL1
  rw [← hr] at HL2
  rw [← hr, ← hg]
  have HGR : Hid (w.heap.size ≤ g ∧ w.heap.size ≤ r ∧ g ≠ r) := by show _ ∧ _; omega
  clear hg hr
  refine (H1.out _).mono ?_
  rintro e w1 ⟨rfl, k1⟩
  have HL1a : Hid (Lv w1 g (nilArr i).toList) := HL1.out.keep k1 id
  have HL2a : Hid (Lv w1 r (nilArr 0).toList) := HL2.out.keep k1 id
  clear HL1 HL2 H1
  go_wp2_with (first
    | (refine wpList_store_sub rfl 34 _ _ rfl 12 g 10 (nilArr i).toList nilC.toList (nilArr i).toList rfl rfl HL1a.out sizeCmd rfl (show 22 ≤ 24 by omega) nilC_one rfl ?_; intro w2 hl2 k2; have HL1b : Hid (Lv w2 g (nilArr i).toList) := hl2; have HL2b : Hid (Lv w2 r (nilArr 0).toList) := HL2a.out.keep k2 (fun e => HGR.out.2.2 e.symm); have c22 : w2.cell? ⟨g, 22, none⟩ = some (.slice none 0 0) := hl2.cell (j := 22) rfl; have f22 : w2.frozen? ⟨g, 22, none⟩ = false := hl2.fz (show 22 < 24 by omega); have c23 : w2.cell? ⟨g, 23, none⟩ = some (.slice none 0 0) := hl2.cell (j := 23) rfl; have f23 : w2.frozen? ⟨g, 23, none⟩ = false := hl2.fz (show 23 < 24 by omega); have HF : Hid (Lv ((w2.setCell ⟨g, 22, none⟩ (.slice none 0 0)).setCell ⟨g, 23, none⟩ (.slice none 0 0)) g (nilArr i).toList ∧ Lv ((w2.setCell ⟨g, 22, none⟩ (.slice none 0 0)).setCell ⟨g, 23, none⟩ (.slice none 0 0)) r (nilArr 0).toList ∧ Kp (fun b => b = g) w2 ((w2.setCell ⟨g, 22, none⟩ (.slice none 0 0)).setCell ⟨g, 23, none⟩ (.slice none 0 0))) := (by
        have ks : Kp (fun b => b = g) w2 ((w2.setCell ⟨g, 22, none⟩ (.slice none 0 0)).setCell ⟨g, 23, none⟩ (.slice none 0 0)) := ((Kp.refl (fun b => b = g) w2).setCell (fun _ => rfl) _).setCell (fun _ => rfl) _
        exact ⟨(HL1b.out.set1 22 _ (show 22 < 24 by omega)).set1 23 _ (show 23 < 24 by omega), HL2b.out.keep ks (fun e => HGR.out.2.2 e.symm), ks⟩); clear hl2)
    | (refine wpList_load_all rfl 38 _ rfl 24 g (nilArr i).toList rfl HF.out.1 descMsg sizeMsg rfl ?_)
    | (refine wpList_store_all rfl 38 _ _ rfl 24 r (nilArr 0).toList (nilArr i).toList rfl rfl HF.out.2.1 sizeMsg rfl rfl (nil_one i) ?_; intro w3 hl3 k3)
    | (go_at_call 35; refine (H2.out _).mono ?_; rintro e w' ⟨rfl, hw⟩; obtain rfl := hw.symm; clear hw)
    | (go_at_call 36; refine (H3.out _).mono ?_; rintro e w' ⟨rfl, hw⟩; obtain rfl := hw.symm; clear hw))
  refine bodyPost_ret (res_cell Try.results23 _ _ r _ rfl (hl3.load descMsg sizeMsg rfl)) rfl ?_
  refine ⟨rfl, ((((k0.trans k1 (fun _ _ e => e)).trans k2 (fun b hb e => ?_)).trans HF.out.2.2 (fun b hb e => ?_)).trans k3 (fun b hb e => ?_))⟩
  · have := HGR.out; omega
  · have := HGR.out; omega
  · have := HGR.out; omega
theorem cl_nil (i : Int) (w : World) (S : Nat → Prop) : Cl (nilMsg i) w S (fun v _ => v = nilMsg i) := fun u _ => (cl_msg_nil i u).mono fun e w' ⟨he, k⟩ => ⟨_, he, sh_nil i, k, rfl⟩
end Go.Proofs.Ytiplhbpjppkniaa
