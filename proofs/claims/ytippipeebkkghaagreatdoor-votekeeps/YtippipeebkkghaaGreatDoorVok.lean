/- Which dirty sectors a mask keeps. -/
import Derived.Test.YtippipeebkkghaaGreatDoorBq
import Derived.Test.YtippipeebkkghaaGreatDoorSc
import Derived.Deep.AppendLies
namespace Go.Proofs.YtippipeebkkghaaGreatDoor
set_option linter.unusedVariables false
set_option linter.unusedSimpArgs false
open Go.RowKit Go.Deep Go.Maps

theorem infoI8k11 : (Tryz.prog.info? 3).map (fun i => (i.zero, i.size, i.bytes)) = some (some (.int .i64 0), 1, 8) := by kernel_rfl
theorem bit6411 {k r : Nat} (h : r = k % 64) (hk : k ≤ 100000) : (IntKind.u64.wrap (k : Int)).tmod 64 = (r : Int) := by
  have e : IntKind.u64.wrap (k : Int) = (k : Int) := by
    simp [IntKind.wrap, IntKind.bits, IntKind.signed]
    omega
  rw [e, Int.tmod_eq_emod_of_nonneg (by omega)]
  omega
set_option maxRecDepth 100000 in
set_option maxHeartbeats 1600000 in
theorem kept11_ok (p : Option Addr) (n c : Nat) (zs : List Int) (mask : Int) (w : World) (hn : n = zs.length) (hr : Rz w p zs) (hl : n ≤ 8192) :
    Calls Tryz.prog 8 #[.slice p n c, .int .u64 mask] w fun e w' => ∃ v ks, e = .returned v ∧ Kp (fun _ => False) w w' ∧ Is w' w.heap.size v ks ∧ (∀ z ∈ ks, z ∈ zs) ∧ ks.length ≤ n := by
  have HRz : Hid (∀ j, j < n → ∃ b o, p = some ⟨b, o, none⟩ ∧ w.cell? ⟨b, o + j, none⟩ = some (.int .i64 (zs.getD j 0)) ∧ zs.getD j 0 ∈ zs) := fun j hj => by
    obtain ⟨b, o, h1, h2⟩ := hr j (by omega)
    refine ⟨b, o, h1, h2, ?_⟩
    rw [List.getD_eq_getElem?_getD, List.getElem?_eq_getElem (by omega)]
    exact List.getElem_mem _
  have HN : Hid (n ≤ 8192) := hl
  obtain ⟨ti, hi0, hz0, hz1', hz2'⟩ := info_parts infoI8k11
  clear hn hr hl
  go_enter Tryz.func8, Tryz.ntmps8
  go_wp2
  go_loopg [5, 10] n (fun gk kv x wr => ∃ (k : Nat) (kv' : Value) (ks : List Int), k ≤ n ∧ gk = n - k ∧ x = .int .i64 k ∧ kv' = kv ∧ Hid (Kp (fun _ => False) w wr) ∧ Hid (Is wr w.heap.size kv' ks ∧ (∀ z ∈ ks, z ∈ zs) ∧ ks.length ≤ k))
  case atStart => exact ⟨0, _, [], Nat.zero_le _, rfl, rfl, rfl, Kp.refl _ _, World.ownsRow_nil _ _ _ _, (fun z h => by cases h), Nat.le_refl _⟩
  case round =>
    obtain ⟨k, kv, ks, hk, rfl, rfl, rfl, HK, HIs⟩ := hrel
    by_cases hlt : (k : Int) < (n : Int)
    · obtain ⟨zb, zo, rfl, zc, hzm⟩ := HRz.out k (by omega)
      have zc' := HK.out.cellv zc id
      obtain ⟨zz, hzz⟩ : ∃ zz, zz = zs.getD k 0 := ⟨_, rfl⟩
      rw [← hzz] at zc' hzm
      have HZm : Hid (zz ∈ zs) := hzm
      obtain ⟨r, hr⟩ : ∃ r, r = k % 64 := ⟨_, rfl⟩
      have hr1 := bit6411 hr (by have := HN.out; omega)
      have hr2 : (r : Int) < 64 := by omega
      have hwk : wrap64 ((k : Int) + 1) = ((k + 1 : Nat) : Int) := by have := HN.out; unfold wrap64; omega
      clear zc hzm hzz hr
      rcases and01 (mask / 2 ^ r) with hb | hb
      · go_wp2
        go_roundg (n - (k + 1))
        case rel => exact ⟨k + 1, kv, ks, by omega, rfl, by first | rw [hwk] | simp, rfl, HK, HIs.out.1, HIs.out.2.1, by have := HIs.out.2.2; omega⟩
        case measure => omega
      · have HOw : Hid (wr.ownsRow w.heap.size 3 1 kv ks.length (ks.map encZ)) := HIs.out.1
        obtain ⟨kl, hkl⟩ : ∃ kl, kl = ks.length := ⟨_, rfl⟩
        have HKl : Hid (kl = ks.length ∧ kl ≤ 8192) := ⟨hkl, by have := HIs.out.2.2; have := HN.out; omega⟩
        rw [← hkl] at HOw
        clear hkl
        have hwz : w.heap.size ≤ wr.heap.size := HK.out.size
        go_wp2_with (at_builtin; go_must (refine wpList_append_own_at _ rfl _ _ 29 rfl w.heap.size 3 ti (.int .i64 0) 1 8 Tryz.underlying29 hi0 hz0 hz1' hz2' rfl (by decide) _ _ _ rfl (HOw.out.alloc _) ⟨wr.heap.size, 0, none⟩ 1 1 [.int .i64 zz] rfl rfl (cell_one_new _ _ _) (fun x hx => by simp at hx; subst hx; rfl) (by have := HKl.out.2; unfold maxLen; omega) (by have := HKl.out.2; omega) (by simp; omega) ?_); intro v' w3 hown' hk3 hnil3 hblk3)
        have k3 : Kp (fun _ => False) w w3 := (HK.out.trans ((Kp.refl (fun _ => False) _).alloc _) (fun _ _ e => e)).trans (grownBy_kp hk3) (fun b hb e => by have := (ownBlock_lt HOw.out e).1; omega)
        have HF : Hid (Kp (fun _ => False) w w3 ∧ Is w3 w.heap.size v' (ks ++ [zz])) := ⟨k3, by
          have e1 : (ks ++ [zz]).length = kl + 1 := by rw [List.length_append, HKl.out.1]; rfl
          have e2 : (ks ++ [zz]).map encZ = ks.map encZ ++ [.int .i64 zz] := by rw [List.map_append]; rfl
          show w3.ownsRow _ _ _ _ _ _
          rw [e1, e2]
          exact hown'⟩
        clear hown' hk3 hnil3 hblk3 k3
        go_wp2
        go_roundg (n - (k + 1))
        case rel => exact ⟨k + 1, v', ks ++ [zz], by omega, rfl, by first | rw [hwk] | simp, rfl, HF.out.1, HF.out.2, (fun z hz => (List.mem_append.1 hz).elim (HIs.out.2.1 z) (fun h => by rw [List.mem_singleton] at h; rw [h]; exact HZm.out)), by rw [List.length_append]; have := HIs.out.2.2; simp; omega⟩
        case measure => omega
    · have hkn : k = n := by omega
      go_wp2
      go_ret
      exact ⟨_, rfl, HK.out, ks, HIs.out.1, HIs.out.2.1, by have := HIs.out.2.2; omega⟩
end Go.Proofs.YtippipeebkkghaaGreatDoor
