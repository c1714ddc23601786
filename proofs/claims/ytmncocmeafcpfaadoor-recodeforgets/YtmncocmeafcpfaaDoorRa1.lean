/- A fetch of two shards: Enough, Came, Blob, Forget, Asks; clone.Recode; recode.New. -/
import Derived.Test.YtmncocmeafcpfaaDoorRa
import Derived.Lib.SliceRun
namespace Go.Proofs.YtmncocmeafcpfaaDoor
set_option linter.unusedVariables false
set_option linter.unusedSimpArgs false
open Go.RowKit Go.Deep

section
variable {w : World} {f g q oq cq n : Nat} {sm cnt : Int} {v0 : Value}
set_option maxRecDepth 100000 in
set_option maxHeartbeats 800000 in
theorem enough2 (h : Fe2 w f g q oq cq n sm cnt v0) : Calls Tryd.prog 92 #[.pointer (some ⟨f, 0, none⟩)] w fun e w' => e = .returned (.bool (decide (cnt ≥ 1))) ∧ Kp (fun _ => False) w w' := by
  have c7 := h.lf.cell (j := 7) rfl
  have c3 := h.lf.cell (j := 3) rfl
  clear h
  go_enter Tryd.func92, Tryd.ntmps92
  go_wp2
  go_quiet (fail)
  go_wp2
  go_ret
  exact ⟨rfl, (Kp.refl _ _).drewN _⟩
set_option maxRecDepth 100000 in
set_option maxHeartbeats 800000 in
theorem came2 (h : Fe2 w f g q oq cq n sm cnt v0) : Calls Tryd.prog 91 #[.pointer (some ⟨f, 0, none⟩)] w fun e w' => e = .returned (.slice (some ⟨g, 0, none⟩) 2 2) ∧ w' = w := by
  have c6 := h.lf.cell (j := 6) rfl
  clear h
  go_enter Tryd.func91, Tryd.ntmps91
  go_wp2
  go_ret
  exact ⟨rfl, rfl⟩
set_option maxRecDepth 100000 in
set_option maxHeartbeats 1600000 in
theorem blob2 (h : Fe2 w f g q oq cq n sm cnt v0) : Calls Tryd.prog 94 #[.pointer (some ⟨f, 0, none⟩)] w fun e w' => e = .returned (.agg (blobA (bF n sm) (.slice (some ⟨q, oq, none⟩) 2 cq))) ∧ Kp (fun _ => False) w w' := by
  have k0 : Kp (fun _ => False) w (w.alloc (.cells zeroB 33)) := (Kp.refl _ _).alloc _
  have HL : Hid (Lv (w.alloc (.cells zeroB 33)) w.heap.size zeroB.toList) := Lv.new w _ _
  have lf := h.lf.keep k0 id
  have HR : Hid ((w.alloc (.cells zeroB 33)).rangeAt f 0 (blobA (bF n sm) (.slice (some ⟨q, oq, none⟩) 2 cq)).toList) := fun j u hu => by
    have hj : j < 6 := by have := (List.getElem?_eq_some_iff.1 hu).1; simpa using this
    exact lf.r j u (by rw [← hu]; rcases j with _ | _ | _ | _ | _ | _ | j <;> first | rfl | omega)
  have HO : Hid ((blobA (bF n sm) (.slice (some ⟨q, oq, none⟩) 2 cq)).toList.toArray.all (·.oneCell') = true) := blob_one _ rfl
  obtain ⟨db, hb1, hb2⟩ := dsBlob
  clear h lf
  go_enter Tryd.func94, Tryd.ntmps94
  go_wp2_with (first
    | (refine wpList_load_mid rfl 33 _ rfl f 0 rfl (blobA (bF n sm) (.slice (some ⟨q, oq, none⟩) 2 cq)).toList db HR.out hb1 hb2 (by rw [szBlob]; rfl) ?_)
    | (refine wpList_store_all rfl 33 _ _ rfl 6 w.heap.size zeroB.toList (blobA (bF n sm) (.slice (some ⟨q, oq, none⟩) 2 cq)).toList rfl rfl HL.out szBlob rfl rfl HO.out ?_; intro w3 hl3 k3))
  refine bodyPost_ret (res_cell Tryd.results94 _ _ w.heap.size _ rfl (hl3.load ⟨db, hb1, hb2⟩ szBlob rfl)) rfl ?_
  exact ⟨rfl, k0.trans k3 (fun b hb e => by omega)⟩

theorem clear2 (w : World) (g : Nat) (v0 v1 : Value) (h : Lv w g [v0, v1]) (ty : TypeId) : (Builtin.clear_ #[27] ty #[.slice (some ⟨g, 0, none⟩) 2 2]).run Tryd.prog w = .ok (.tuple #[]) ((w.setCell ⟨g, 0, none⟩ (.slice none 0 0)).setCell ⟨g, 1, none⟩ (.slice none 0 0)) := by
  have := Go.Lib.run_clear_slice (P := Tryd.prog) w 27 22 ty (.slice none 0 0) Tryd.underlying27 (fun w => by kernel_rfl) rfl rfl g 0 2 2 (by omega) (fun j hj => by
    rcases j with _ | _ | j
    · rw [h.cell (j := 0) rfl]; rfl
    · rw [h.cell (j := 1) rfl]; rfl
    · omega) (fun j hj => by
    rcases j with _ | _ | j
    · exact h.fz (j := 0) (by simp)
    · exact h.fz (j := 1) (by simp)
    · omega)
  rw [this]
  rfl
end

abbrev recA (ph self : Int) (nv fp sp : Value) : List Value := [.int .i64 ph, .int .i64 self, .int .i64 4, .int .i64 6, .int .i64 1, .int .i64 0, nv, fp, sp]
abbrev rcdA (nv : Value) : Array Value := #[.int .i64 4, .int .i64 6, .int .i64 1, .int .i64 0, nv]
theorem szRcd : (Tryd.prog.info? 66).map (·.size) = some 5 := by kernel_rfl
theorem dsRcd : ∃ d, Tryd.prog.underlying 66 = some d ∧ d.isRow = true := ⟨_, Tryd.underlying66, rfl⟩
end Go.Proofs.YtmncocmeafcpfaaDoor
