/- A shelf: Fetch. -/
import Derived.Test.YtmooddbhcccicaaGreatDoorIk
namespace Go.Proofs.YtmooddbhcccicaaGreatDoor
set_option linter.unusedVariables false
set_option linter.unusedSimpArgs false
open Go.RowKit Go.Deep Go.Maps

section
variable {w : World} {Z : Nat → Prop} {sh mp g bp d m gf s a b c e y : Nat} {dur : List Nat} {h : List Rc}
set_option maxRecDepth 100000 in
set_option maxHeartbeats 3200000 in
theorem sfetch_ok (x : Shf w Z sh mp g bp d m gf s a b c e y dur h) (bl ix ep : Nat) (hbl : bl ≤ 1152921504606846976) (hix : ix ≤ 1152921504606846976) (hep : ep ≤ 1152921504606846976) :
    Calls Tryz.prog 17 #[.pointer (some ⟨sh, 0, none⟩), .int .i64 (bl : Int), .int .i64 (ix : Int), .int .i64 (ep : Int)] w fun e9 w' => Kp (fun _ => False) w w' ∧
      ((ep < fncd h bl ix ∧ e9 = .returned (.tuple #[.slice none 0 0, .int .i64 81])) ∨
      (fncd h bl ix ≤ ep ∧ (stS h).1 ⟨1, (bl : Int), (ix : Int)⟩ = none ∧ e9 = .returned (.tuple #[.slice none 0 0, .int .i64 80])) ∨
      (fncd h bl ix ≤ ep ∧ ∃ o v, (stS h).1 ⟨1, (bl : Int), (ix : Int)⟩ = some o ∧ e9 = .returned (.tuple #[v, .int .i64 0]) ∧ Ow w' w.heap.size v o.b)) := by
  obtain ⟨r0, hr0⟩ : ∃ r0, r0 = w.heap.size := ⟨_, rfl⟩
  obtain ⟨w0, hw0⟩ : ∃ y, y = w.alloc (.cells #[.int .i64 (bl : Int), .int .i64 (ix : Int), .int .i64 (ep : Int)] 3) := ⟨_, rfl⟩
  have HK0 : Hid (Kp (fun _ => False) w w0) := by rw [hw0]; exact (Kp.refl _ _).alloc _
  have HS0 : Hid (Shf w0 Z sh mp g bp d m gf s a b c e y dur h) := x.keep0 HK0.out
  have HA : Hid (Calls Tryz.prog 44 #[.pointer (some ⟨sh, 0, none⟩), .slice (some ⟨r0, 0, none⟩) 3 3] w0 fun e w' => e = .returned (.int .i64 0) ∧ w' = w0) := by
    have h1 := asked_ok (HS0.out.sk.l.cell (j := 0) rfl) (some ⟨r0, 0, none⟩) 3 3 [(bl : Int), (ix : Int), (ep : Int)] (by rw [hw0, hr0]; exact rz3 w _ _ _ _) rfl (by omega)
    rw [upTo3 hbl hix hep] at h1
    exact h1
  have HFe : Hid (Calls _ _ _ w0 _) := fenced_ok HS0.out.sk bl ix hbl hix
  obtain ⟨F, hF⟩ : ∃ F, F = fncd h bl ix := ⟨_, rfl⟩
  rw [← hF] at HFe ⊢
  have hwf : wf3 ⟨1, (bl : Int), (ix : Int)⟩ := ⟨wf_n60 (n := 1) (by omega), wf_n60 hbl, wf_n60 hix⟩
  obtain ⟨a1, a2, a3, a4, qq, nn, cc, ok, hlk, hM⟩ := HS0.out.sk.look _ hwf
  have hlk0 : (Instr.lookup 88 (.map (some mp)) (.agg #[.int .i64 1, .int .i64 (bl : Int), .int .i64 (ix : Int)]) true).run Tryz.prog w0 = .ok (.tuple #[.agg #[.int .i64 a1, .int .i64 a2, .int .i64 a3, .int .i64 a4, .slice qq nn cc], .bool ok]) w0 := hlk w0 (Kp.refl _ _)
  have HM : Hid ((ok = false ∧ (stS h).1 ⟨1, (bl : Int), (ix : Int)⟩ = none) ∨ (ok = true ∧ ∃ o, (stS h).1 ⟨1, (bl : Int), (ix : Int)⟩ = some o ∧ nn = o.b.length ∧ Rb w0 qq o.b.length o.b ∧ GoodR o)) := by
    rcases hM with hM | ⟨h1, o, h2, _, _, _, _, h3, h4, h5, _⟩
    · exact Or.inl hM
    · exact Or.inr ⟨h1, o, h2, h3, h4, h5⟩
  have c1 : w0.cell? ⟨sh, 1, none⟩ = some (.map (some mp)) := HS0.out.sk.l.cell (j := 1) rfl
  have HF1 : Hid (F = fncd h bl ix) := hF
  clear x hbl hix hep hwf hlk hM hF HS0
  go_enter Tryz.func17, Tryz.ntmps17
  go_wp2_with fail
  rw [← hw0, ← hr0]
  clear hw0 hr0
  refine HA.out.mono ?_
  rintro e9 w9 ⟨rfl, hw9⟩
  have hw8 := hw9.symm
  subst hw8
  clear hw9 HA
  go_wp2_with fail
  refine HFe.out.mono ?_
  rintro e9 w9 ⟨rfl, hw9⟩
  have hw8 := hw9.symm
  subst hw8
  clear hw9 HFe
  have HKa : Hid (∀ o : Obj, Kp (fun _ => False) w0 (w0.alloc o)) := fun o => (Kp.refl _ _).alloc o
  by_cases hlt : (ep : Int) < (F : Int)
  · have HL : Hid (ep < F) := by show _ < _; omega
    clear HM
    go_wp2_with fail
    go_ret2
    exact ⟨HK0.out, Or.inl ⟨HL.out, rfl⟩⟩
  · have HL : Hid (F ≤ ep) := by show _ ≤ _; omega
    rcases HM.out with ⟨rfl, hno⟩ | ⟨rfl, o, ho, rfl, hrb, hgo⟩
    · have HN : Hid ((stS h).1 ⟨1, (bl : Int), (ix : Int)⟩ = none) := hno
      clear hno HM
      go_wp2_with fail
      go_ret2
      exact ⟨HK0.out.trans (HKa.out _) (fun _ _ e => e), Or.inr (Or.inl ⟨HL.out, HN.out, rfl⟩)⟩
    · have HO : Hid ((stS h).1 ⟨1, (bl : Int), (ix : Int)⟩ = some o) := ho
      have HCl : Hid (∀ u, Kp (fun _ => False) w0 u → Calls Tryz.prog 13 #[.slice qq o.b.length cc] u fun e w' => ∃ v, e = .returned v ∧ Kp (fun _ => False) u w' ∧ Ow w' u.heap.size v o.b) := fun u ku => clone_any qq o.b.length cc o.b u (hrb.keep0 ku) (by have := hgo.bl; show _ ≤ _; omega)
      clear ho hrb hgo HM
      go_wp2_with fail
      refine (HCl.out _ (HKa.out _)).mono ?_
      rintro e9 w3 ⟨v3, rfl, k3, o3⟩
      have k4 : Kp (fun _ => False) w0 w3 := (HKa.out _).trans k3 (fun _ _ e => e)
      have HF : Hid (Kp (fun _ => False) w w3 ∧ Ow w3 w.heap.size v3 o.b) := ⟨HK0.out.trans k4 (fun _ _ e => e), ownsRow_base o3 (Nat.le_trans HK0.out.size (HKa.out _).size)⟩
      clear k3 k4 o3 HCl
      go_wp2_with fail
      go_ret2
      exact ⟨HF.out.1, Or.inr (Or.inr ⟨HL.out, o, v3, HO.out, rfl, HF.out.2⟩)⟩
end
end Go.Proofs.YtmooddbhcccicaaGreatDoor
