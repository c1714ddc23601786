/- Where the next record stands: end. -/
import Derived.Test.YtippipeebkkghaaGreatDoorBq
namespace Go.Proofs.YtippipeebkkghaaGreatDoor
set_option linter.unusedVariables false
set_option linter.unusedSimpArgs false
open Go.RowKit Go.Deep

theorem wrapCS {c s S : Nat} (h : S = c + s) (h2 : S ≤ 100000) : wrap64 ((c : Int) + (s : Int)) = (S : Int) := by unfold wrap64; omega
theorem wrapSK {S k E : Nat} (h : E = S - k) (h1 : k ≤ S) (h2 : S ≤ 100000) : wrap64 ((S : Int) - (k : Int)) = (E : Int) := by unfold wrap64; omega
theorem wrapMod {E s m : Nat} (h : m = E % s) (hs : 1 ≤ s) (hs2 : s ≤ 100000) : (E : Int).tmod (s : Int) = (m : Int) ∧ wrap64 (m : Int) = (m : Int) := by
  refine ⟨by rw [h, Int.tmod_eq_emod_of_nonneg (by omega)]; norm_cast, ?_⟩
  have := Nat.mod_lt E (show 0 < s by omega)
  unfold wrap64
  omega

set_option maxRecDepth 100000 in
set_option maxHeartbeats 1600000 in
theorem end_ok {w : World} {g bp s gf : Nat} {a b c e : Nat} {last : Int} {f k tt : Nat} (h : Wl w g bp s gf ⟨a, b, c, e⟩ last f k) (hs : 1 ≤ s ∧ s ≤ 8190) (hc : c < s) (hk : k = s - tt ∧ tt ≤ s) :
    Calls Tryz.prog 165 #[.pointer (some ⟨g, 0, none⟩)] w fun e9 w' => e9 = .returned (.int .i64 (((c + tt) % s : Nat) : Int)) ∧ Kp (fun _ => False) w w' := by
  obtain ⟨S, hS⟩ : ∃ S, S = c + s := ⟨_, rfl⟩
  obtain ⟨E, hE⟩ : ∃ E, E = S - k := ⟨_, rfl⟩
  obtain ⟨M, hM⟩ : ∃ M, M = E % s := ⟨_, rfl⟩
  have hEt : E = c + tt := by omega
  rw [← hEt, ← hM]
  have hs0 : ((s : Int) == 0) = false := by rw [beq_eq_false_iff_ne]; omega
  have hs1 : ¬ (s : Int) = 0 := by omega
  have o1 : S ≤ 100000 := by omega
  have o2 : k ≤ S := by omega
  have o3 : s ≤ 100000 := by omega
  have i1 := wrapI (wrapCS hS o1)
  have i2 := wrapI (wrapSK hE o2 o1)
  have w3 := (wrapMod hM hs.1 o3).1
  have w5 : (E : Int) % (s : Int) = (M : Int) := by rw [hM]; norm_cast
  have hsn : ¬ s = 0 := by omega
  have i4 := wrapI (wrapMod hM hs.1 o3).2
  clear o1 o2 o3
  obtain ⟨cap, l, hl, ho, hf⟩ := h.hp
  have v1 : w.cell? ⟨g, 1, none⟩ = some (.int .i64 (s : Int)) := hl.cell (j := 1) rfl
  have v4 : w.cell? ⟨g, 4, none⟩ = some (.int .i64 (c : Int)) := hl.cell (j := 4) rfl
  have HSS : Hid (∀ z, Kp (fun _ => False) w z → Kp (fun _ => False) w z ∧ z.cell? ⟨g, 1, none⟩ = some (.int .i64 (s : Int)) ∧ z.cell? ⟨g, 4, none⟩ = some (.int .i64 (c : Int))) := fun z kz => ⟨kz, kz.cellv v1 id, kz.cellv v4 id⟩
  have HR : Hid (∀ u, Kp (fun _ => False) w u → Calls Tryz.prog 83 #[.pointer (some ⟨g, 0, none⟩)] u fun e9 w' => e9 = .returned (.int .i64 (k : Int)) ∧ w' = u) := fun u ku => room_ok (h.keep ku id id)
  clear h hs hc hk hS hE hM hEt hl ho hf v1 v4
  go_enter Tryz.func165, Tryz.ntmps165
  go_upto_region 1 with fail
  have kd : Kp (fun _ => False) w w.drew := (Kp.refl _ _).drew
  go_region_held3 (fun z => Kp (fun _ => False) w z ∧ z.cell? ⟨g, 1, none⟩ = some (.int .i64 (s : Int)) ∧ z.cell? ⟨g, 4, none⟩ = some (.int .i64 (c : Int)))
    (first
      | exact HSS.out _ kd)
    (first
      | (go_at_call 83; refine (HR.out _ kd).mono ?_; rintro e9 w9 ⟨rfl, rfl⟩))
  all_goals
    have HKd : Hid (Kp (fun _ => False) w w.drew) := kd
    clear HSS HR kd
    go_simp
    go_wp2
    go_ret
    exact ⟨rfl, HKd.out⟩
end Go.Proofs.YtippipeebkkghaaGreatDoor
