/- The reference's copies of commands. -/
import Derived.Test.YtjbgpbafgpdciaaQw
namespace Go.Proofs.Ytjbgpbafgpdciaa
set_option linter.unusedVariables false
open Go.RowKit Go.Deep Go.Maps

set_option maxRecDepth 100000 in
set_option maxHeartbeats 1600000 in
theorem copy_cmd (c : Cs0) (Z : Nat → Prop) (p : Option Addr) (cap : Nat) (zs : List Int) (w : World) (h : Fl w Z p (zs.map encI)) (hn : Hid (zs.length * 8 ≤ 140737488355328)) :
    Calls Try.prog 27 #[.agg (cmdA c (.slice p zs.length cap))] w fun e w' => ∃ q cq, e = .returned (.agg (cmdA c (.slice q zs.length cq))) ∧ Kp (fun _ => False) w w' ∧ Fl w' (fun b => w.heap.size ≤ b ∧ b < w'.heap.size) q (zs.map encI) := by
  obtain ⟨n, hnn⟩ : ∃ n, n = zs.length := ⟨_, rfl⟩
  have HNN : Hid (n = zs.length) := hnn
  have HFi : Hid (∀ u, Kp (fun _ => False) w u → Fl u Z p (zs.map encI)) := fun u k => h.keep k (fun _ _ => id)
  rw [← hnn] at hn ⊢
  clear h hnn
  obtain ⟨ti, hi0, hz0, hz1, hz2⟩ := info_parts infoInt
  have z1 : (w.alloc (.cells (cmdA c (.slice p n cap)) 34)).heap.size = w.heap.size + 1 := by simp
  have z2 : ((w.alloc (.cells (cmdA c (.slice p n cap)) 34)).alloc (.cells zeroC 34)).heap.size = w.heap.size + 1 + 1 := by simp
  have HOw : Hid ((((w.alloc (.cells (cmdA c (.slice p n cap)) 34)).alloc (.cells zeroC 34)).alloc (.cells #[] 3)).ownsRow (w.heap.size + 1 + 1) 3 1 (.slice (some ⟨w.heap.size + 1 + 1, 0, none⟩) 0 0) 0 []) := by rw [← z2]; exact World.ownsRow_made ((w.alloc (.cells (cmdA c (.slice p n cap)) 34)).alloc (.cells zeroC 34)) #[] 0 (Nat.le_refl _) (by unfold maxLen; omega) rfl
  have HL1 : Hid (Lv (((w.alloc (.cells (cmdA c (.slice p n cap)) 34)).alloc (.cells zeroC 34)).alloc (.cells #[] 3)) w.heap.size (cmdA c (.slice p n cap)).toList) := ((Lv.new w _ _).keep ((Kp.refl (fun _ => False) _).alloc _) id).keep ((Kp.refl (fun _ => False) _).alloc _) id
  have HL2 : Hid (Lv (((w.alloc (.cells (cmdA c (.slice p n cap)) 34)).alloc (.cells zeroC 34)).alloc (.cells #[] 3)) (w.heap.size + 1) zeroC.toList) := by rw [← z1]; exact (Lv.new _ _ _).keep ((Kp.refl (fun _ => False) _).alloc _) id
  have k0 : Kp (fun _ => False) w (((w.alloc (.cells (cmdA c (.slice p n cap)) 34)).alloc (.cells zeroC 34)).alloc (.cells #[] 3)) := (((Kp.refl _ _).alloc _).alloc _).alloc _
  have HSr : Hid (Src Try.prog 1 32 (.slice p n cap) n (zs.map encI) (((w.alloc (.cells (cmdA c (.slice p n cap)) 34)).alloc (.cells zeroC 34)).alloc (.cells #[] 3))) := (HFi.out _ k0).src Try.underlying32 (by decide) (by rw [List.length_map, HNN.out]; omega) (fun u hu => by obtain ⟨z, _, rfl⟩ := List.mem_map.1 hu; rfl)
  have HSz : Hid ((((w.alloc (.cells (cmdA c (.slice p n cap)) 34)).alloc (.cells zeroC 34)).alloc (.cells #[] 3)).heap.size = w.heap.size + 3) := by show _ = _; simp
  clear z1 z2
  go_enter Try.func27, Try.ntmps27
  go_wp2_with (first
    | (at_builtin; go_must (refine wpList_append_own_src _ rfl _ _ 32 32 rfl (w.heap.size + 1 + 1) 3 ti (.int .i64 0) 1 8 Try.underlying32 hi0 hz0 hz1 hz2 rfl (by decide) _ 0 [] rfl (by exact HOw.out) _ n (zs.map encI) rfl (by exact HSr.out) (by have := hn.out; unfold maxLen; omega) (by have := hn.out; omega) (by simp) ?_); intro v' w3 hown' hk3 hblk3; have k3 : Kp (fun b => some (w.heap.size + 1 + 1) = some b) _ w3 := grownBy_kp hk3; rw [Nat.zero_add, List.nil_append] at hown'; obtain ⟨q, cq, rfl, hfl⟩ := own_fl hown'; have HFl : Hid (Fl w3 (fun b => w.heap.size + 1 + 1 ≤ b ∧ b < w3.heap.size) q (zs.map encI)) := hfl; have HL1a : Hid (Lv w3 w.heap.size (cmdA c (.slice p n cap)).toList) := HL1.out.keep k3 (fun e => by have := Option.some.inj e; omega); have HL2a : Hid (Lv w3 (w.heap.size + 1) zeroC.toList) := HL2.out.keep k3 (fun e => by have := Option.some.inj e; omega); have k03 : Kp (fun _ => False) w w3 := k0.trans k3 (fun b hb e => by have := Option.some.inj e; omega); have c11 : w3.cell? ⟨w.heap.size, 11, none⟩ = some (.slice p n cap) := HL1a.out.cell (j := 11) rfl; have f11 : w3.frozen? ⟨w.heap.size, 11, none⟩ = false := HL1a.out.fz (show 11 < 12 by omega); have ks : Kp (fun b => b = w.heap.size) w3 (w3.setCell ⟨w.heap.size, 11, none⟩ (.slice q n cq)) := (Kp.refl (fun b => b = w.heap.size) w3).setCell (fun _ => rfl) _; have HF : Hid (Lv (w3.setCell ⟨w.heap.size, 11, none⟩ (.slice q n cq)) w.heap.size (cmdA c (.slice q n cq)).toList ∧ Lv (w3.setCell ⟨w.heap.size, 11, none⟩ (.slice q n cq)) (w.heap.size + 1) zeroC.toList) := ⟨HL1a.out.set1 11 _ (show 11 < 12 by omega), HL2a.out.keep ks (by omega)⟩; have HO : Hid ((cmdA c (.slice q n cq)).toList.toArray.all (·.oneCell') = true) := cmd_one _ rfl; clear hk3 hblk3 hfl HL1 HL2 HOw HSr hown')
    | (refine wpList_load_all rfl 34 _ rfl 12 w.heap.size (cmdA c (.slice q n cq)).toList rfl HF.out.1 dsCmd szCmd rfl ?_)
    | (refine wpList_store_all rfl 34 _ _ rfl 12 (w.heap.size + 1) zeroC.toList (cmdA c (.slice q n cq)).toList rfl rfl HF.out.2 szCmd rfl rfl HO.out ?_; intro w4 hl4 k4))
  refine bodyPost_ret (res_cell Try.results27 _ _ (w.heap.size + 1) _ rfl (hl4.load dsCmd szCmd rfl)) rfl ?_
  have kk : Kp (fun b => b = w.heap.size ∨ b = w.heap.size + 1) w3 w4 := (ks.mono (fun _ _ e => Or.inl e)).trans k4 (fun _ _ e => Or.inr e)
  refine ⟨q, ⟨cq, rfl⟩, k03.trans kk (fun b hb e => by omega), ?_⟩
  exact (HFl.out.keep kk (fun b hb e => by omega)).mono (fun b hb => ⟨by omega, Nat.lt_of_lt_of_le hb.2 kk.size⟩)
end Go.Proofs.Ytjbgpbafgpdciaa
