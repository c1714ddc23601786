/- Posts that no call made. -/
import Derived.Test.YtiplhbpjppkniaaLnu
namespace Go.Proofs.Ytiplhbpjppkniaa
set_option linter.unusedVariables false
open Go.RowKit Go.Deep Go.Maps

theorem neq_none_map (w : World) : (binOp .neq 58 (.map none) (.map none)).run Try.prog w = .ok (.bool false) w := by kernel_rfl
/-- nobody made the post that v points to -/
def Np (w : World) (v : Value) : Prop := ∀ u, Kp (fun _ => False) w u → Calls Try.prog 22 #[v] u fun e w' => e = .returned (.bool false) ∧ w' = u
theorem Np.keep {w u : World} {v : Value} (h : Np w v) (k : Kp (fun _ => False) w u) : Np u v := fun z kz => h z (k.trans kz (fun _ _ e => e))
set_option maxRecDepth 100000 in
theorem np_nil (w : World) : Np w (.pointer none) := fun u _ => by
  go_enter Try.func22, Try.ntmps22
  go_wp2
  go_ret
  exact ⟨rfl, rfl⟩
set_option maxRecDepth 100000 in
theorem np_zero {w : World} {p : Nat} (h : w.cell? ⟨p, 1, none⟩ = some (.map none)) : Np w (.pointer (some ⟨p, 0, none⟩)) := fun u k => by
  have c1 := k.cellv h id
  have hne := neq_none_map u
  clear h k
  go_enter Try.func22, Try.ntmps22
  go_wp2
  go_ret
  exact ⟨rfl, rfl⟩

set_option maxRecDepth 100000 in
set_option maxHeartbeats 1600000 in
theorem npackets {w : World} {v : Value} (h : Np w v) : Calls Try.prog 20 #[v] w fun e w' => e = .returned (.slice none 0 0) ∧ Kp (fun _ => False) w w' := by
  have HP : Hid (∀ u, Kp (fun _ => False) w u → Calls _ _ _ u _) := h
  clear h
  go_enter Try.func20, Try.ntmps20
  go_wp2_with (go_at_call 22; refine (HP.out _ (Kp.refl _ _)).mono ?_; rintro e w1 ⟨rfl, rfl⟩)
  go_ret
  exact ⟨rfl, Kp.refl _ _⟩

set_option maxRecDepth 100000 in
set_option maxHeartbeats 1600000 in
theorem nsend {w : World} {v x : Value} (h : Np w v) (hs : Sh x) : Calls Try.prog 9 #[v, x] w fun e w' => e = .returned (.tuple #[.int .i64 0, .int .i64 2]) ∧ Kp (fun _ => False) w w' := by
  have HP : Hid (∀ u, Kp (fun _ => False) w u → Calls _ _ _ u _) := h
  obtain ⟨cs, rfl, hc24, hc1⟩ := hs
  clear h
  go_enter Try.func9, Try.ntmps9
  go_wp2_with (go_at_call 22; refine (HP.out _ ((Kp.refl _ _).alloc _)).mono ?_; rintro e w1 ⟨rfl, rfl⟩)
  go_ret2
  exact ⟨rfl, (Kp.refl _ _).alloc _⟩

set_option maxRecDepth 100000 in
set_option maxHeartbeats 1600000 in
theorem npacket {w : World} {v : Value} (ii : Int) (h : Np w v) : Calls Try.prog 24 #[v, .int .i64 ii] w fun e w' => e = .returned (.tuple #[nilMsg 0, .int .i64 2]) ∧ Kp (fun _ => False) w w' := by
  have HP : Hid (∀ u, Kp (fun _ => False) w u → Calls _ _ _ u _) := h
  have HO1 : Hid ((nilArr 0).toList.toArray.all (·.oneCell') = true) := nil_one 0
  clear h
  go_enter Try.func24, Try.ntmps24
  go_wp2_with fail
  obtain ⟨u, hu⟩ : ∃ x, x = w.alloc (.cells (nilArr 0) 38) := ⟨_, rfl⟩
  have HL0 : Hid (Lv u w.heap.size (nilArr 0).toList) := by rw [hu]; exact Lv.new w _ _
  have k0 : Kp (fun _ => False) w u := by rw [hu]; exact (Kp.refl _ _).alloc _
  have e0 : w.alloc (.cells (nilArr 0) 38) = u := hu.symm
  simp only [nilArr] at e0
  rw [e0]
  clear e0 hu
  obtain ⟨g, hg⟩ : ∃ g, g = w.heap.size := ⟨_, rfl⟩
  rw [← hg] at HL0 ⊢
  have HG : Hid (w.heap.size ≤ g) := by show _ ≤ _; omega
  clear hg
  refine (HP.out _ k0).mono ?_
  rintro e w' ⟨rfl, hw⟩
  obtain rfl := hw.symm
  clear hw HP
  go_wp2_with (refine wpList_store_all rfl 38 _ _ rfl 24 g (nilArr 0).toList (nilArr 0).toList rfl rfl HL0.out sizeMsg rfl rfl HO1.out ?_; intro u3 hl3 k3)
  have hld := hl3.load descMsg sizeMsg rfl
  refine bodyPost_ret (res_cell_tmp Try.results24 _ _ g _ rfl hld) rfl ?_
  exact ⟨rfl, k0.trans k3 (fun b hb e => by have := HG.out; omega)⟩

set_option maxRecDepth 100000 in
set_option maxHeartbeats 1600000 in
theorem ntake {w : World} {v : Value} (ii : Int) (h : Np w v) : Calls Try.prog 12 #[v, .int .i64 ii] w fun e w' => e = .returned (.tuple #[nilMsg 0, .int .i64 2]) ∧ Kp (fun _ => False) w w' := by
  have HPk : Hid (∀ u, Kp (fun _ => False) w u → Calls _ _ _ u _) := fun u k => npacket ii (h.keep k)
  have HO1 : Hid ((nilArr 0).toList.toArray.all (·.oneCell') = true) := nil_one 0
  clear h
  go_enter Try.func12, Try.ntmps12
  go_wp2_with fail
  obtain ⟨u, hu⟩ : ∃ x, x = w.alloc (.cells (nilArr 0) 38) := ⟨_, rfl⟩
  have HL0 : Hid (Lv u w.heap.size (nilArr 0).toList) := by rw [hu]; exact Lv.new w _ _
  have k0 : Kp (fun _ => False) w u := by rw [hu]; exact (Kp.refl _ _).alloc _
  have e0 : w.alloc (.cells (nilArr 0) 38) = u := hu.symm
  simp only [nilArr] at e0
  rw [e0]
  clear e0 hu
  obtain ⟨g, hg⟩ : ∃ g, g = w.heap.size := ⟨_, rfl⟩
  rw [← hg] at HL0 ⊢
  have HG : Hid (w.heap.size ≤ g) := by show _ ≤ _; omega
  clear hg
  refine (HPk.out _ k0).mono ?_
  rintro e w1 ⟨rfl, k1⟩
  have k01 := k0.trans k1 (fun _ _ e => e)
  have HL1 : Hid (Lv w1 g (nilArr 0).toList) := HL0.out.keep k1 id
  clear HPk HL0
  go_wp2_with (first
    | (refine wpList_store_all rfl 38 _ _ rfl 24 w1.heap.size (nilArr 0).toList (nilArr 0).toList rfl rfl (by exact Lv.new w1 _ _) sizeMsg rfl rfl HO1.out ?_; intro u2 hl2 k2; have ku2 : Kp (fun _ => False) w1 u2 := ((Kp.refl (fun _ => False) w1).alloc _).trans k2 (fun b hb e => by omega); have k02 := k01.trans ku2 (fun _ _ e => e); have HL2 : Hid (Lv u2 g (nilArr 0).toList) := HL1.out.keep ku2 id; clear hl2 k2)
    | (refine wpList_store_all rfl 38 _ _ rfl 24 g (nilArr 0).toList (nilArr 0).toList rfl rfl HL2.out sizeMsg rfl rfl HO1.out ?_; intro u4 hl4 k4))
  have hld := hl4.load descMsg sizeMsg rfl
  refine bodyPost_ret (res_cell_tmp Try.results12 _ _ g _ rfl hld) rfl ?_
  exact ⟨rfl, k02.trans k4 (fun b hb e => by have := HG.out; omega)⟩

set_option maxRecDepth 100000 in
set_option maxHeartbeats 1600000 in
theorem nlose {w : World} {v : Value} (ii : Int) (h : Np w v) : Calls Try.prog 15 #[v, .int .i64 ii] w fun e w' => e = .returned (.int .i64 2) ∧ Kp (fun _ => False) w w' := by
  have HT : Hid (Calls _ _ _ w _) := ntake ii h
  clear h
  go_enter Try.func15, Try.ntmps15
  go_wp2_with fail
  refine HT.out.mono ?_
  rintro e w1 ⟨rfl, k1⟩
  have HO1 : Hid ((nilArr 0).toList.toArray.all (·.oneCell') = true) := nil_one 0
  clear HT
  go_wp2_with (refine wpList_store_all rfl 38 _ _ rfl 24 w1.heap.size (nilArr 0).toList (nilArr 0).toList rfl rfl (by exact Lv.new w1 _ _) sizeMsg rfl rfl HO1.out ?_; intro u2 hl2 k2; have ku2 : Kp (fun _ => False) w1 u2 := ((Kp.refl (fun _ => False) w1).alloc _).trans k2 (fun b hb e => by omega); clear hl2 k2)
  go_ret
  exact ⟨rfl, k1.trans ku2 (fun _ _ e => e)⟩

set_option maxRecDepth 100000 in
set_option maxHeartbeats 1600000 in
theorem ntwice {w : World} {v : Value} (ii : Int) (h : Np w v) : Calls Try.prog 17 #[v, .int .i64 ii] w fun e w' => e = .returned (.tuple #[.int .i64 0, .int .i64 2]) ∧ Kp (fun _ => False) w w' := by
  have HT : Hid (Calls _ _ _ w _) := npacket ii h
  clear h
  go_enter Try.func17, Try.ntmps17
  go_wp2_with fail
  refine HT.out.mono ?_
  rintro e w1 ⟨rfl, k1⟩
  have HO1 : Hid ((nilArr 0).toList.toArray.all (·.oneCell') = true) := nil_one 0
  clear HT
  go_wp2_with (refine wpList_store_all rfl 38 _ _ rfl 24 w1.heap.size (nilArr 0).toList (nilArr 0).toList rfl rfl (by exact Lv.new w1 _ _) sizeMsg rfl rfl HO1.out ?_; intro u2 hl2 k2; have ku2 : Kp (fun _ => False) w1 u2 := ((Kp.refl (fun _ => False) w1).alloc _).trans k2 (fun b hb e => by omega); clear hl2 k2)
  go_ret2
  exact ⟨rfl, k1.trans ku2 (fun _ _ e => e)⟩
end Go.Proofs.Ytiplhbpjppkniaa
