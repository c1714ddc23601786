/- What is promised. -/
import Derived.Test.YtippipeebkkghaaGreatDoorVoe
import Derived.Test.YtippipeebkkghaaGreatDoorVob
import Derived.Test.YtippipeebkkghaaGreatDoorJrx
namespace Go.Proofs.YtippipeebkkghaaGreatDoor
set_option linter.unusedVariables false
set_option linter.unusedSimpArgs false
open Go.RowKit Go.Deep Go.Maps

section
variable {w : World} {Z : Nat → Prop} {sh mp g : Nat} {h : List Rc} {hi : Nat} {V : Nat → Nat}

/-- the first note, as a ballot -/
theorem rank_noted (hs : Hs h hi V) {B : Nat} {v : Value} {u : World} (o : Ow u B v (ntd h 0)) :
    Calls Tryz.prog 43 #[v] u fun e w' => (∃ x y, e = .returned (.tuple #[.agg #[.int .i64 (hi : Int)], x, y])) ∧ Kp (fun _ => False) u w' := by
  have h20 := hs.h20
  have hb : ∀ z ∈ ntd h 0, z < 256 := fun z hz => by
    rw [hs.at0] at hz
    by_cases e : hi = 0
    · rw [if_pos e] at hz; cases hz
    · rw [if_neg e] at hz
      simp only [List.mem_cons, List.not_mem_nil, or_false] at hz
      omega
  obtain ⟨q, c, rfl, hc, hr, _⟩ := o.rb hb
  rw [hs.at0] at hc hr ⊢
  by_cases e : hi = 0
  · rw [if_pos e] at hc hr ⊢
    refine (readRank_none q c u).mono ?_
    rintro e9 w' ⟨rfl, k⟩
    exact ⟨⟨_, _, by rw [e]; rfl⟩, k⟩
  · rw [if_neg e] at hc hr ⊢
    refine (readRank_one q 2 c hi [] u hr hc ⟨by omega, h20⟩ (by omega)).mono ?_
    rintro e9 w' ⟨q2, m, cq, rfl, k, _⟩
    exact ⟨⟨_, _, rfl⟩, k⟩

set_option maxRecDepth 100000 in
set_option maxHeartbeats 1600000 in
theorem promised_ok {ac : Nat} (x : Sk w Z sh mp g h) (hs : Hs h hi V) (hc : w.cell? ⟨ac, 0, none⟩ = some (.pointer (some ⟨sh, 0, none⟩))) :
    Calls Tryz.prog 19 #[.pointer (some ⟨ac, 0, none⟩)] w fun e w' => e = .returned (.agg #[.int .i64 (hi : Int)]) ∧ Kp (fun _ => False) w w' := by
  obtain ⟨h0, hh0⟩ : ∃ y, y = w.heap.size := ⟨_, rfl⟩
  obtain ⟨w0, hw0⟩ : ∃ y, y = w.alloc (.cells #[.int .i64 0] 68) := ⟨_, rfl⟩
  have HK0 : Hid (Kp (fun _ => False) w w0) := by rw [hw0]; exact (Kp.refl _ _).alloc _
  have HL0 : Hid (Lv w0 h0 [.int .i64 0]) := by rw [hw0, hh0]; exact Lv.new _ _ _
  have HNt : Hid (Calls _ _ _ w0 _) := r8noted_ok (x.keep HK0.out id id (fun _ _ => id)) 0 (by omega)
  have HR : Hid (∀ (B : Nat) (v : Value) (u : World), Ow u B v (ntd h 0) → Calls Tryz.prog 43 #[v] u fun e w' => (∃ x y, e = .returned (.tuple #[.agg #[.int .i64 (hi : Int)], x, y])) ∧ Kp (fun _ => False) u w') := fun B v u o => rank_noted hs o
  have hc0 : w0.cell? ⟨ac, 0, none⟩ = some (.pointer (some ⟨sh, 0, none⟩)) := HK0.out.cellv hc id
  have HH : Hid (h0 = w.heap.size) := hh0
  clear x hs hc
  go_enter Tryz.func19, Tryz.ntmps19
  go_upto_region 1 with fail
  rw [← hw0, ← hh0]
  clear hw0 hh0
  go_wp2_with fail
  refine HNt.out.mono ?_
  rintro e9 w1 ⟨v, rfl, k1, o1, _⟩
  have HRk : Hid (Calls _ _ _ w1 _) := HR.out _ v w1 o1
  have HK1 : Hid (Kp (fun _ => False) w0 w1) := k1
  clear k1 o1 HNt HR
  go_wp2_with fail
  refine HRk.out.mono ?_
  rintro e9 w2 ⟨⟨x, y, rfl⟩, k2⟩
  obtain ⟨h3, hh3⟩ : ∃ y, y = w2.heap.size := ⟨_, rfl⟩
  obtain ⟨w3, hw3⟩ : ∃ y, y = w2.alloc (.cells #[.int .i64 (hi : Int)] 68) := ⟨_, rfl⟩
  have k3 : Kp (fun _ => False) w2 w3 := by rw [hw3]; exact (Kp.refl _ _).alloc _
  have l3 : Lv w3 h3 [.int .i64 (hi : Int)] := by rw [hw3, hh3]; exact Lv.new _ _ _
  have HK3 : Hid (Kp (fun _ => False) w0 w3) := (HK1.out.trans k2 (fun _ _ e => e)).trans k3 (fun _ _ e => e)
  have l0 : Lv w3 h0 [.int .i64 0] := HL0.out.keep HK3.out id
  have c3 : w3.cell? ⟨h3, 0, none⟩ = some (.int .i64 (hi : Int)) := l3.cell (j := 0) rfl
  have c0 : w3.cell? ⟨h0, 0, none⟩ = some (.int .i64 0) := l0.cell (j := 0) rfl
  have f0 : w3.frozen? ⟨h0, 0, none⟩ = false := l0.fz (show 0 < 1 by omega)
  have z1 : (w3.setCell ⟨h0, 0, none⟩ (.int .i64 (hi : Int))).cell? ⟨h0, 0, none⟩ = some (.int .i64 (hi : Int)) := (l0.set1 0 (.int .i64 (hi : Int)) (by show 0 < 1; omega)).cell (j := 0) rfl
  have HF : Hid (Kp (fun _ => False) w (w3.setCell ⟨h0, 0, none⟩ (.int .i64 (hi : Int)))) := (HK0.out.trans HK3.out (fun _ _ e => e)).trans ((Kp.refl (fun b => b = h0) w3).setCell (fun _ => rfl) _) (fun b9 hb e => by have e' : b9 = h0 := e; have := HH.out; omega)
  clear k2 k3 l3 l0 HRk HK1 HK3 HL0
  go_upto_region 2 with fail
  rw [← hw3, ← hh3]
  clear hw3 hh3
  go_wp2_with fail
  refine bodyPost_ret (res_cell Tryz.results19 _ _ h0 _ rfl (load_rank h0 (hi : Int) _ z1)) rfl ?_
  exact ⟨rfl, HF.out⟩

set_option maxRecDepth 100000 in
theorem rank_field (x : Int) (w : World) : (Instr.field 68 (.agg #[.int .i64 x]) 0).run Tryz.prog w = .ok (.int .i64 x) w := by kernel_rfl

set_option maxRecDepth 100000 in
theorem vPromised_ok {ac : Nat} (x : Sk w Z sh mp g h) (hs : Hs h hi V) (hc : w.cell? ⟨ac, 0, none⟩ = some (.pointer (some ⟨sh, 0, none⟩))) :
    Calls Tryz.prog 12 #[.pointer (some ⟨ac, 0, none⟩)] w fun e w' => e = .returned (.int .i64 (hi : Int)) ∧ Kp (fun _ => False) w w' := by
  have HM : Hid (Calls _ _ _ w _) := vmade_ok hc
  have HP : Hid (Calls _ _ _ w _) := promised_ok x hs hc
  clear x hs hc
  go_enter Tryz.func12, Tryz.ntmps12
  go_wp2_with fail
  refine HM.out.mono ?_
  rintro e9 w9 ⟨rfl, hw9⟩
  have hw8 := hw9.symm
  subst hw8
  clear hw9 HM
  go_wp2_with fail
  refine HP.out.mono ?_
  rintro e9 w1 ⟨rfl, k1⟩
  have HF : Hid (Kp (fun _ => False) _ w1) := k1
  clear k1 HP
  have hf := rank_field (hi : Int) w1
  go_wp2_with fail
  go_ret
  exact ⟨rfl, HF.out⟩

end
end Go.Proofs.YtippipeebkkghaaGreatDoor
