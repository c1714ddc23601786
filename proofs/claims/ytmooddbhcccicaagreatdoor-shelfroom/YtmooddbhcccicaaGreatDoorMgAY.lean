/- Texts of this proof, joined: Il, Im, In. -/
import Derived.Test.YtmooddbhcccicaaGreatDoorMgAX
import Derived.Deep.DeepCutAuto
import Derived.Shelf.AbstractIn
import Derived.RangeFuncSeq
import Derived.RangeFuncBox
import Derived.RangeFuncLeaves
import Derived.RangeFuncNested
import Derived.Sort.MapsRangeIn
import Derived.Shelf.SlIterI.Sorted
import Derived.WalkKit
import Derived.OwnWalkIn
import Derived.TacticsInMore
import Derived.RegionIn
import Derived.LoopNIn
import Derived.LoopIn
/- A shelf: Fetch. -/
namespace Go.Proofs.YtmooddbhcccicaaGreatDoor
set_option linter.unusedVariables false
set_option linter.unusedSimpArgs false
open Go.RowKit Go.Deep Go.Maps

section
variable {w : World} {Z : Nat → Prop} {sh mp g bp d m gf s a b c e y : Nat} {dur : List Nat} {h : List Rc}
set_option maxRecDepth 100000 in
set_option maxHeartbeats 3200000 in
theorem sfetch_ok (x : Shf w Z sh mp g bp d m gf s a b c e y dur h) (bl ix ep : Nat) (hbl : bl ≤ 1152921504606846976) (hix : ix ≤ 1152921504606846976) (hep : ep ≤ 1152921504606846976) :
    Calls Tryz.prog 17 #[.pointer (some ⟨sh, 0, none⟩), .int .i64 (bl : Int), .int .i64 (ix : Int), .int .i64 (ep : Int)] w fun e9 w' => Kp (fun _ => False) w w' ∧
      ((ep < fncd h bl ix ∧ e9 = .returned (.tuple #[.slice none 0 0, .int .i64 81])) ∨
      (fncd h bl ix ≤ ep ∧ (stS h).1 ⟨1, (bl : Int), (ix : Int)⟩ = none ∧ e9 = .returned (.tuple #[.slice none 0 0, .int .i64 80])) ∨
      (fncd h bl ix ≤ ep ∧ ∃ o v, (stS h).1 ⟨1, (bl : Int), (ix : Int)⟩ = some o ∧ e9 = .returned (.tuple #[v, .int .i64 0]) ∧ Ow w' w.heap.size v o.b)) := by
  obtain ⟨r0, hr0⟩ : ∃ r0, r0 = w.heap.size := ⟨_, rfl⟩
  obtain ⟨w0, hw0⟩ : ∃ y, y = w.alloc (.cells #[.int .i64 (bl : Int), .int .i64 (ix : Int), .int .i64 (ep : Int)] 3) := ⟨_, rfl⟩
  have HK0 : Hid (Kp (fun _ => False) w w0) := by rw [hw0]; exact (Kp.refl _ _).alloc _
  have HS0 : Hid (Shf w0 Z sh mp g bp d m gf s a b c e y dur h) := x.keep0 HK0.out
  have HA : Hid (Calls Tryz.prog 44 #[.pointer (some ⟨sh, 0, none⟩), .slice (some ⟨r0, 0, none⟩) 3 3] w0 fun e w' => e = .returned (.int .i64 0) ∧ w' = w0) := by
    have h1 := asked_ok (HS0.out.sk.l.cell (j := 0) rfl) (some ⟨r0, 0, none⟩) 3 3 [(bl : Int), (ix : Int), (ep : Int)] (by rw [hw0, hr0]; exact rz3 w _ _ _ _) rfl (by omega)
    rw [upTo3 hbl hix hep] at h1
    exact h1
  have HFe : Hid (Calls _ _ _ w0 _) := fenced_ok HS0.out.sk bl ix hbl hix
  obtain ⟨F, hF⟩ : ∃ F, F = fncd h bl ix := ⟨_, rfl⟩
  rw [← hF] at HFe ⊢
  have hwf : wf3 ⟨1, (bl : Int), (ix : Int)⟩ := ⟨wf_n60 (n := 1) (by omega), wf_n60 hbl, wf_n60 hix⟩
  obtain ⟨a1, a2, a3, a4, qq, nn, cc, ok, hlk, hM⟩ := HS0.out.sk.look _ hwf
  have hlk0 : (Instr.lookup 88 (.map (some mp)) (.agg #[.int .i64 1, .int .i64 (bl : Int), .int .i64 (ix : Int)]) true).run Tryz.prog w0 = .ok (.tuple #[.agg #[.int .i64 a1, .int .i64 a2, .int .i64 a3, .int .i64 a4, .slice qq nn cc], .bool ok]) w0 := hlk w0 (Kp.refl _ _)
  have HM : Hid ((ok = false ∧ (stS h).1 ⟨1, (bl : Int), (ix : Int)⟩ = none) ∨ (ok = true ∧ ∃ o, (stS h).1 ⟨1, (bl : Int), (ix : Int)⟩ = some o ∧ nn = o.b.length ∧ Rb w0 qq o.b.length o.b ∧ GoodR o)) := by
    rcases hM with hM | ⟨h1, o, h2, _, _, _, _, h3, h4, h5, _⟩
    · exact Or.inl hM
    · exact Or.inr ⟨h1, o, h2, h3, h4, h5⟩
  have c1 : w0.cell? ⟨sh, 1, none⟩ = some (.map (some mp)) := HS0.out.sk.l.cell (j := 1) rfl
  have HF1 : Hid (F = fncd h bl ix) := hF
  clear x hbl hix hep hwf hlk hM hF HS0
  go_enter Tryz.func17, Tryz.ntmps17
  go_wp2_with fail
  rw [← hw0, ← hr0]
  clear hw0 hr0
  refine HA.out.mono ?_
  rintro e9 w9 ⟨rfl, hw9⟩
  have hw8 := hw9.symm
  subst hw8
  clear hw9 HA
  go_wp2_with fail
  refine HFe.out.mono ?_
  rintro e9 w9 ⟨rfl, hw9⟩
  have hw8 := hw9.symm
  subst hw8
  clear hw9 HFe
  have HKa : Hid (∀ o : Obj, Kp (fun _ => False) w0 (w0.alloc o)) := fun o => (Kp.refl _ _).alloc o
  by_cases hlt : (ep : Int) < (F : Int)
  · have HL : Hid (ep < F) := by show _ < _; omega
    clear HM
    go_wp2_with fail
    go_ret2
    exact ⟨HK0.out, Or.inl ⟨HL.out, rfl⟩⟩
  · have HL : Hid (F ≤ ep) := by show _ ≤ _; omega
    rcases HM.out with ⟨rfl, hno⟩ | ⟨rfl, o, ho, rfl, hrb, hgo⟩
    · have HN : Hid ((stS h).1 ⟨1, (bl : Int), (ix : Int)⟩ = none) := hno
      clear hno HM
      go_wp2_with fail
      go_ret2
      exact ⟨HK0.out.trans (HKa.out _) (fun _ _ e => e), Or.inr (Or.inl ⟨HL.out, HN.out, rfl⟩)⟩
    · have HO : Hid ((stS h).1 ⟨1, (bl : Int), (ix : Int)⟩ = some o) := ho
      have HCl : Hid (∀ u, Kp (fun _ => False) w0 u → Calls Tryz.prog 13 #[.slice qq o.b.length cc] u fun e w' => ∃ v, e = .returned v ∧ Kp (fun _ => False) u w' ∧ Ow w' u.heap.size v o.b) := fun u ku => clone_any qq o.b.length cc o.b u (hrb.keep0 ku) (by have := hgo.bl; show _ ≤ _; omega)
      clear ho hrb hgo HM
      go_wp2_with fail
      refine (HCl.out _ (HKa.out _)).mono ?_
      rintro e9 w3 ⟨v3, rfl, k3, o3⟩
      have k4 : Kp (fun _ => False) w0 w3 := (HKa.out _).trans k3 (fun _ _ e => e)
      have HF : Hid (Kp (fun _ => False) w w3 ∧ Ow w3 w.heap.size v3 o.b) := ⟨HK0.out.trans k4 (fun _ _ e => e), ownsRow_base o3 (Nat.le_trans HK0.out.size (HKa.out _).size)⟩
      clear k3 k4 o3 HCl
      go_wp2_with fail
      go_ret2
      exact ⟨HF.out.1, Or.inr (Or.inr ⟨HL.out, o, v3, HO.out, rfl, HF.out.2⟩)⟩
end
end Go.Proofs.YtmooddbhcccicaaGreatDoor

/- A shelf: Store. -/
namespace Go.Proofs.YtmooddbhcccicaaGreatDoor
set_option linter.unusedVariables false
set_option linter.unusedSimpArgs false
open Go.RowKit Go.Deep Go.Maps

section
variable {w : World} {Z : Nat → Prop} {sh mp g bp d m gf s a b c e y : Nat} {dur : List Nat} {h : List Rc}
set_option maxRecDepth 100000 in
set_option maxHeartbeats 3200000 in
theorem sstore_ok (x : Shf w Z sh mp g bp d m gf s a b c e y dur h) (bl ix ep : Nat) (hbl : bl ≤ 1152921504606846976) (hix : ix ≤ 1152921504606846976) (hep : ep ≤ 1152921504606846976) (p : Option Addr) (n cp : Nat) (xs : List Nat) (hr : Rb w p n xs) (hxn : n = xs.length) (hx1 : 1 ≤ n ∧ n ≤ 1980) (hxb : ∀ v ∈ xs, v < 256)
    (hZ : ∀ v, w.heap.size ≤ v → Z v) (hn : h.length + 1 ≤ 1000) (hroom : 2 * (secS ⟨1, bl, ix, 0, xs⟩ : Int) + (stS h).2 + (totW (h.map wrS) : Int) ≤ (s : Int)) (hfit : totW (h.map wrS) + secS ⟨1, bl, ix, 0, xs⟩ ≤ s) :
    Calls Tryz.prog 14 #[.pointer (some ⟨sh, 0, none⟩), .int .i64 (bl : Int), .int .i64 (ix : Int), .int .i64 (ep : Int), .slice p n cp] w fun e9 w' =>
      (ep < fncd h bl ix ∧ e9 = .returned (.int .i64 81) ∧ Kp (fun _ => False) w w') ∨
      (fncd h bl ix ≤ ep ∧ (stS h).1 ⟨1, (bl : Int), (ix : Int)⟩ = none ∧ e9 = .returned (.int .i64 0) ∧ Kp (SW sh mp g m gf) w w' ∧ Shf w' Z sh mp g bp d m gf s a b c e y dur (h ++ [⟨1, bl, ix, 0, xs⟩])) ∨
      (fncd h bl ix ≤ ep ∧ ∃ o, (stS h).1 ⟨1, (bl : Int), (ix : Int)⟩ = some o ∧ e9 = .returned (.int .i64 (if o.b = xs then 0 else 82)) ∧ Kp (fun _ => False) w w') := by
  obtain ⟨r0, hr0⟩ : ∃ r0, r0 = w.heap.size := ⟨_, rfl⟩
  obtain ⟨w0, hw0⟩ : ∃ y, y = w.alloc (.cells #[.int .i64 (bl : Int), .int .i64 (ix : Int), .int .i64 (ep : Int)] 3) := ⟨_, rfl⟩
  have HK0 : Hid (Kp (fun _ => False) w w0) := by rw [hw0]; exact (Kp.refl _ _).alloc _
  have HS0 : Hid (Shf w0 Z sh mp g bp d m gf s a b c e y dur h) := x.keep0 HK0.out
  have HA : Hid (Calls Tryz.prog 44 #[.pointer (some ⟨sh, 0, none⟩), .slice (some ⟨r0, 0, none⟩) 3 3] w0 fun e w' => e = .returned (.int .i64 0) ∧ w' = w0) := by
    have h1 := asked_ok (HS0.out.sk.l.cell (j := 0) rfl) (some ⟨r0, 0, none⟩) 3 3 [(bl : Int), (ix : Int), (ep : Int)] (by rw [hw0, hr0]; exact rz3 w _ _ _ _) rfl (by omega)
    rw [upTo3 hbl hix hep] at h1
    exact h1
  have HFe : Hid (Calls _ _ _ w0 _) := fenced_ok HS0.out.sk bl ix hbl hix
  obtain ⟨F, hF⟩ : ∃ F, F = fncd h bl ix := ⟨_, rfl⟩
  rw [← hF] at HFe ⊢
  have hwf : wf3 ⟨1, (bl : Int), (ix : Int)⟩ := ⟨wf_n60 (n := 1) (by omega), wf_n60 hbl, wf_n60 hix⟩
  obtain ⟨a1, a2, a3, a4, qq, nn, cc, ok, hlk, hM⟩ := HS0.out.sk.look _ hwf
  have hlk0 : (Instr.lookup 88 (.map (some mp)) (.agg #[.int .i64 1, .int .i64 (bl : Int), .int .i64 (ix : Int)]) true).run Tryz.prog w0 = .ok (.tuple #[.agg #[.int .i64 a1, .int .i64 a2, .int .i64 a3, .int .i64 a4, .slice qq nn cc], .bool ok]) w0 := hlk w0 (Kp.refl _ _)
  have HM : Hid ((ok = false ∧ (stS h).1 ⟨1, (bl : Int), (ix : Int)⟩ = none) ∨ (ok = true ∧ ∃ o, (stS h).1 ⟨1, (bl : Int), (ix : Int)⟩ = some o ∧ nn = o.b.length ∧ Rb w0 qq o.b.length o.b ∧ GoodR o)) := by
    rcases hM with hM | ⟨h1, o, h2, _, _, _, _, h3, h4, h5, _⟩
    · exact Or.inl hM
    · exact Or.inr ⟨h1, o, h2, h3, h4, h5⟩
  have c1 : w0.cell? ⟨sh, 1, none⟩ = some (.map (some mp)) := HS0.out.sk.l.cell (j := 1) rfl
  have HF1 : Hid (F = fncd h bl ix) := hF
  have HLk : Hid (∀ z, Kp (fun _ => False) w0 z → (Instr.lookup 88 (.map (some mp)) (.agg #[.int .i64 1, .int .i64 (bl : Int), .int .i64 (ix : Int)]) true).run Tryz.prog z = .ok (.tuple #[.agg #[.int .i64 a1, .int .i64 a2, .int .i64 a3, .int .i64 a4, .slice qq nn cc], .bool ok]) z) := hlk
  have HB0 : Hid (Rb w0 p n xs) := hr.keep0 HK0.out
  have HX : Hid (n = xs.length ∧ 1 ≤ n ∧ n ≤ 1980) := ⟨hxn, hx1⟩
  have HWr : Hid (∀ (u u2 : World) (v : Value), Kp (fun _ => False) w0 u → Kp (fun _ => False) u u2 → Ow u2 u.heap.size v xs → Calls Tryz.prog 45 #[.pointer (some ⟨sh, 0, none⟩), .agg #[.int .i64 1, .int .i64 (bl : Int), .int .i64 (ix : Int), .int .i64 0, v]] u2 fun e9 w' => e9 = .returned (.int .i64 0) ∧ Kp (SW sh mp g m gf) u2 w' ∧ Shf w' Z sh mp g bp d m gf s a b c e y dur (h ++ [⟨1, bl, ix, 0, xs⟩])) := fun u u2 v k1 k2 ov => by
    obtain ⟨q9, c9, rfl, hc9, hr9, hb9⟩ := ov.rb hxb
    have hbl9 : xs.length ≤ 1980 := by omega
    exact ((HS0.out.keep0 k1).keep0 k2).write ⟨1, bl, ix, 0, xs⟩ q9 c9 hr9 ⟨⟨show 1 ≤ 1 by omega, show 1 ≤ 4 by omega⟩, hbl, hix, show 0 ≤ 1152921504606846976 by omega, hxb, hbl9, fun e => by rcases e with e | e <;> cases e⟩ hn (fun z hz => hZ _ (by
      have := (hb9 z hz).1
      have h1 := HK0.out.size
      have h2 := k1.size
      omega)) hroom hfit
  have HSB : Hid (sh < w0.heap.size ∧ mp < w0.heap.size ∧ g < w0.heap.size ∧ m < w0.heap.size ∧ gf < w0.heap.size) := by
    obtain ⟨q9, lt9, T9, l9⟩ := HS0.out.lg
    have h1 := l9.blk
    have h2 := HS0.out.sk.l.lt (by simp)
    have h3 : mp < w0.heap.size := by obtain ⟨c9, T8, _, h2, _⟩ := HS0.out.sk.m; exact h2.lt
    exact ⟨h2, h3, h1.1, h1.2.2.2.1, h1.2.2.2.2⟩
  have HXb : Hid (∀ v ∈ xs, v < 256) := hxb
  have hn1 : ¬ ((n : Int) < 1) := by omega
  have hn2 : ¬ ((1980 : Int) < (n : Int)) := by omega
  clear x hbl hix hep hwf hlk hlk0 hM hF HS0 hr hxn hx1 hxb hZ hn hroom hfit
  go_enter Tryz.func14, Tryz.ntmps14
  go_wp2_with fail
  rw [← hw0, ← hr0]
  clear hw0 hr0
  refine HA.out.mono ?_
  rintro e9 w9 ⟨rfl, hw9⟩
  have hw8 := hw9.symm
  subst hw8
  clear hw9 HA
  go_wp2_with fail
  refine HFe.out.mono ?_
  rintro e9 w9 ⟨rfl, hw9⟩
  have hw8 := hw9.symm
  subst hw8
  clear hw9 HFe
  by_cases hlt : (ep : Int) < (F : Int)
  · have HL : Hid (ep < F) := by show _ < _; omega
    clear HM HWr
    go_wp2_with fail
    go_ret
    exact Or.inl ⟨HL.out, rfl, HK0.out⟩
  · have HL : Hid (F ≤ ep) := by show _ ≤ _; omega
    obtain ⟨tb, htb⟩ : ∃ tb, tb = w0.heap.size := ⟨_, rfl⟩
    obtain ⟨w1, hw1⟩ : ∃ y, y = w0.alloc (.cells #[.int .i64 1, .int .i64 (bl : Int), .int .i64 (ix : Int)] 83) := ⟨_, rfl⟩
    have HK1 : Hid (Kp (fun _ => False) w0 w1) := by rw [hw1]; exact (Kp.refl _ _).alloc _
    have HT1 : Hid (Lv w1 tb [.int .i64 1, .int .i64 (bl : Int), .int .i64 (ix : Int)]) := by rw [hw1, htb]; exact Lv.new _ _ _
    have HTb : Hid (tb = w0.heap.size) := htb
    go_upto_region 9 with fail
    rw [← hw1, ← htb]
    clear hw1 htb
    have HSl : Hid (∀ z, Kp (fun _ => False) w1 z → Kp (fun _ => False) w1 z ∧ z.cell? ⟨sh, 1, none⟩ = some (.map (some mp)) ∧ z.cell? ⟨tb, 0, none⟩ = some (.int .i64 1) ∧ z.cell? ⟨tb, 1, none⟩ = some (.int .i64 (bl : Int)) ∧ z.cell? ⟨tb, 2, none⟩ = some (.int .i64 (ix : Int)) ∧ (Instr.lookup 88 (.map (some mp)) (.agg #[.int .i64 1, .int .i64 (bl : Int), .int .i64 (ix : Int)]) true).run Tryz.prog z = .ok (.tuple #[.agg #[.int .i64 a1, .int .i64 a2, .int .i64 a3, .int .i64 a4, .slice qq nn cc], .bool ok]) z) := fun z k => ⟨k, (HK1.out.trans k (fun _ _ e => e)).cellv c1 id, k.cellv (HT1.out.cell (j := 0) rfl) id, k.cellv (HT1.out.cell (j := 1) rfl) id, k.cellv (HT1.out.cell (j := 2) rfl) id, HLk.out z (HK1.out.trans k (fun _ _ e => e))⟩
    go_cut [13, 14] (fun v6 v7 wz => ∃ q, v6 = .pointer (some ⟨q, 0, none⟩) ∧ v7 = .bool ok ∧ Hid (Kp (fun _ => False) w1 wz) ∧ Hid (Lv wz q [.int .i64 a1, .int .i64 a2, .int .i64 a3, .int .i64 a4, .slice qq nn cc]))
    case first =>
      clear HM HWr c1
      have kd : Kp (fun _ => False) w1 w1.drew := (Kp.refl _ _).drew
      have kda : ∀ o : Obj, Kp (fun _ => False) w1 (w1.drew.alloc o) := fun o => (Kp.refl _ _).drew.alloc o
      go_region_held3 (fun z => Kp (fun _ => False) w1 z ∧ z.cell? ⟨sh, 1, none⟩ = some (.map (some mp)) ∧ z.cell? ⟨tb, 0, none⟩ = some (.int .i64 1) ∧ z.cell? ⟨tb, 1, none⟩ = some (.int .i64 (bl : Int)) ∧ z.cell? ⟨tb, 2, none⟩ = some (.int .i64 (ix : Int)) ∧ (Instr.lookup 88 (.map (some mp)) (.agg #[.int .i64 1, .int .i64 (bl : Int), .int .i64 (ix : Int)]) true).run Tryz.prog z = .ok (.tuple #[.agg #[.int .i64 a1, .int .i64 a2, .int .i64 a3, .int .i64 a4, .slice qq nn cc], .bool ok]) z)
        (first
          | exact HSl.out _ kd
          | exact HSl.out _ (kda _))
        (fail)
      all_goals
        go_simp
        go_wp2_with fail
        go_meet
        first
          | exact ⟨_, rfl, rfl, kda _, Lv.new _ _ _⟩
          | exact ⟨_, rfl, rfl, ((Kp.refl _ _).alloc _).drew, (Lv.new _ _ _).keep (S := fun _ => False) ((Kp.refl _ _).drew) id⟩
          | trace_state
    case rest =>
      obtain ⟨q, rfl, rfl, HKc, HLc⟩ := hcut
      have HKc0 : Hid (Kp (fun _ => False) w0 wc) := HK1.out.trans HKc.out (fun _ _ e => e)
      have HTc : Hid (Lv wc tb [.int .i64 1, .int .i64 (bl : Int), .int .i64 (ix : Int)]) := HT1.out.keep HKc.out id
      clear HSl c1 HLk
      rcases HM.out with ⟨rfl, hno⟩ | ⟨rfl, o, ho, rfl, hrb, hgo⟩
      · have HN : Hid ((stS h).1 ⟨1, (bl : Int), (ix : Int)⟩ = none) := hno
        clear hno HM
        have HCl : Hid (∀ u, Kp (fun _ => False) wc u → Calls Tryz.prog 13 #[.slice p n cp] u fun e w' => ∃ v, e = .returned v ∧ Kp (fun _ => False) u w' ∧ Ow w' u.heap.size v xs) := fun u ku => clone_any p n cp xs u (HB0.out.keep0 (HKc0.out.trans ku (fun _ _ e => e))) (by have := HX.out; show _ ≤ _; omega)
        have HBk : Hid (¬ SW sh mp g m gf tb) := by
          have h1 := HSB.out
          have h2 := HTb.out
          show ¬ (tb = m ∨ tb = g ∨ tb = gf ∨ tb = sh ∨ tb = mp)
          omega
        have HS1 : Hid (∀ z, Kp (SW sh mp g m gf) wc z → Kp (SW sh mp g m gf) wc z ∧ z.cell? ⟨tb, 0, none⟩ = some (.int .i64 1) ∧ z.cell? ⟨tb, 1, none⟩ = some (.int .i64 (bl : Int)) ∧ z.cell? ⟨tb, 2, none⟩ = some (.int .i64 (ix : Int))) := fun z k => ⟨k, k.cellv (HTc.out.cell (j := 0) rfl) HBk.out, k.cellv (HTc.out.cell (j := 1) rfl) HBk.out, k.cellv (HTc.out.cell (j := 2) rfl) HBk.out⟩
        have HS0 : Hid (∀ z, Kp (fun _ => False) wc z → Kp (SW sh mp g m gf) wc z ∧ z.cell? ⟨tb, 0, none⟩ = some (.int .i64 1) ∧ z.cell? ⟨tb, 1, none⟩ = some (.int .i64 (bl : Int)) ∧ z.cell? ⟨tb, 2, none⟩ = some (.int .i64 (ix : Int))) := fun z k => HS1.out z (k.mono (fun _ _ e => e.elim))
        have HSt : Hid (∀ z z2, Kp (fun _ => False) wc z → Kp (SW sh mp g m gf) z z2 → Kp (SW sh mp g m gf) wc z2 ∧ z2.cell? ⟨tb, 0, none⟩ = some (.int .i64 1) ∧ z2.cell? ⟨tb, 1, none⟩ = some (.int .i64 (bl : Int)) ∧ z2.cell? ⟨tb, 2, none⟩ = some (.int .i64 (ix : Int))) := fun z z2 k k2 => HS1.out z2 ((k.mono (fun _ _ e => e.elim)).trans k2 (fun _ _ e => e))
        have HWc : Hid (∀ (u u2 : World) (v : Value), Kp (fun _ => False) wc u → Kp (fun _ => False) u u2 → Ow u2 u.heap.size v xs → Calls Tryz.prog 45 #[.pointer (some ⟨sh, 0, none⟩), .agg #[.int .i64 1, .int .i64 (bl : Int), .int .i64 (ix : Int), .int .i64 0, v]] u2 fun e9 w' => e9 = .returned (.int .i64 0) ∧ Kp (SW sh mp g m gf) u2 w' ∧ Shf w' Z sh mp g bp d m gf s a b c e y dur (h ++ [⟨1, bl, ix, 0, xs⟩])) := fun u u2 v k1 k2 ov => HWr.out u u2 v (HKc0.out.trans k1 (fun _ _ e => e)) k2 ov
        have kd : Kp (fun _ => False) wc wc.drew := (Kp.refl _ _).drew
        have HTr : Hid (∀ u u' : World, Kp (fun _ => False) wc u → Kp (fun _ => False) u u' → Kp (fun _ => False) wc u') := fun u u' h1 h2 => h1.trans h2 (fun _ _ e => e)
        clear HWr HS1
        go_upto_region 11 with fail
        go_region_held3 (fun z => Kp (SW sh mp g m gf) wc z ∧ z.cell? ⟨tb, 0, none⟩ = some (.int .i64 1) ∧ z.cell? ⟨tb, 1, none⟩ = some (.int .i64 (bl : Int)) ∧ z.cell? ⟨tb, 2, none⟩ = some (.int .i64 (ix : Int)))
          (first
            | exact HS0.out _ kd
            | exact HS0.out _ kw1
            | exact HSt.out _ _ kw1 k8)
          (first
            | (go_at_call 13; refine (HCl.out _ kd).mono ?_; rintro e9 w7 ⟨v7, rfl, k7, o7⟩; obtain ⟨q7, c7, hv7, hc7, hr7, hb7⟩ := o7.rb HXb.out; subst hv7; clear hc7 hr7 hb7; have kw1 := HTr.out _ _ kd k7)
            | (go_at_call 45; refine (HWc.out _ _ _ kd k7 o7).mono ?_; rintro e9 w8 ⟨rfl, k8, s8⟩))
        all_goals
          have HF : Hid (Kp (SW sh mp g m gf) w w8 ∧ Shf w8 Z sh mp g bp d m gf s a b c e y dur (h ++ [⟨1, bl, ix, 0, xs⟩])) := ⟨(((HK0.out.trans HKc0.out (fun _ _ e => e)).trans kw1 (fun _ _ e => e)).mono (fun _ _ e => e.elim)).trans k8 (fun _ _ e => e), s8⟩
          clear HS0 HSt HWc HCl HTr kd kw1 k7 o7 k8 s8
          go_simp
          go_wp2_with fail
          go_ret
          exact Or.inr (Or.inl ⟨HL.out, HN.out, rfl, HF.out⟩)
      · have HO : Hid ((stS h).1 ⟨1, (bl : Int), (ix : Int)⟩ = some o) := ho
        have HEq : Hid (Calls Tryz.prog 20 #[.slice qq o.b.length cc, .slice p n cp] wc fun e w' => e = .returned (.bool (decide (o.b = xs))) ∧ w' = wc) := equal_any cc cp wc (hrb.keep0 HKc0.out) (HB0.out.keep0 HKc0.out)
        have v4 : wc.cell? ⟨q, 4, none⟩ = some (.slice qq o.b.length cc) := HLc.out.cell (j := 4) rfl
        clear ho hrb hgo HM HWr
        by_cases hEq : o.b = xs
        · have HE : Hid (o.b = xs) := hEq
          have hdE : decide (o.b = xs) = true := decide_eq_true hEq
          rw [hdE] at HEq
          clear hEq hdE
          go_wp2_with fail
          refine HEq.out.mono ?_
          rintro e9 w9 ⟨rfl, hw9⟩
          have hw8 := hw9.symm
          subst hw8
          clear hw9 HEq
          go_wp2_with fail
          go_ret
          exact Or.inr (Or.inr ⟨HL.out, o, HO.out, by rw [if_pos HE.out]; rfl, HK0.out.trans HKc0.out (fun _ _ e => e)⟩)
        · have HE : Hid (¬ o.b = xs) := hEq
          have hdE : decide (o.b = xs) = false := decide_eq_false hEq
          rw [hdE] at HEq
          clear hEq hdE
          go_wp2_with fail
          refine HEq.out.mono ?_
          rintro e9 w9 ⟨rfl, hw9⟩
          have hw8 := hw9.symm
          subst hw8
          clear hw9 HEq
          go_wp2_with fail
          go_ret
          exact Or.inr (Or.inr ⟨HL.out, o, HO.out, by rw [if_neg HE.out]; rfl, HK0.out.trans HKc0.out (fun _ _ e => e)⟩)
end
end Go.Proofs.YtmooddbhcccicaaGreatDoor

/- A shelf's map: maps.Values, collected. -/
namespace Go.Proofs.YtmooddbhcccicaaGreatDoor
set_option linter.unusedVariables false
set_option linter.unusedSimpArgs false
open Go.RowKit Go.Deep Go.Maps Go.Shelf Go.Sort

set_option maxRecDepth 100000 in
/-- what is a key, is a thing -/
theorem key3 {v : Value} {kl : Lit} (h : keyOf Tryz.prog 83 v = some kl) : ∃ x : K3, v = pv3 x ∧ wf3 x ∧ kl = pk3 x := by
  obtain ⟨m, hm⟩ := p3t
  unfold keyOf at h
  simp only [Tryz.underlying83, p3k, Bool.true_and] at h
  by_cases hf : v.formed Tryz.prog 83 = true
  · rw [if_pos hf] at h
    obtain ⟨ls, hl, he⟩ := Option.map_eq_some_iff.1 h
    cases v <;> simp [Value.formed, Tryz.underlying83, p3c.1] at hf
    rename_i cs
    obtain ⟨l⟩ := cs
    match l, hf with
    | [a, b, d], _ =>
      rw [hm] at hl
      unfold Program.keyLits at hl
      simp only [Tryz.underlying83, p3c.1, p3c.2] at hl
      simp [Value.cells, List.range_succ, p3c.2] at hl
      have one : ∀ (x : Value) (y : List Lit), Tryz.prog.keyLits (m + 1) 3 [x] = some y → ∃ c : Int, x = .int .i64 c ∧ (Lit.int .i64 c).wf = true ∧ y = [.int .i64 c] := fun x y hy => by
        unfold Program.keyLits at hy
        simp only [Tryz.underlying3] at hy
        cases x <;> simp at hy
        obtain ⟨⟨h1, h2⟩, h3⟩ := hy
        subst h1
        exact ⟨_, rfl, h2, h3.symm⟩
      cases ha : Tryz.prog.keyLits (m + 1) 3 [a] with
      | none => simp [ha] at hl
      | some ya =>
        cases hb : Tryz.prog.keyLits (m + 1) 3 [b] with
        | none => simp [ha, hb] at hl
        | some yb =>
          cases hd : Tryz.prog.keyLits (m + 1) 3 [d] with
          | none => simp [ha, hb, hd] at hl
          | some yd =>
            obtain ⟨c, rfl, hc, rfl⟩ := one a ya ha
            obtain ⟨e, rfl, he', rfl⟩ := one b yb hb
            obtain ⟨f, rfl, hf', rfl⟩ := one d yd hd
            simp [ha, hb, hd] at hl
            exact ⟨⟨c, e, f⟩, rfl, ⟨hc, he', hf'⟩, by rw [← he, ← hl]; rfl⟩
  · rw [if_neg hf] at h; cases h

/-- what a record has besides its thing -/
structure G3 where
  e : Int
  p : Option Addr
  n : Nat
  c : Nat
instance : Inhabited K3 := ⟨⟨0, 0, 0⟩⟩
/-- a record's cells -/
def cE (G : K3 → G3) (x : K3) : List Value := [.int .i64 x.k, .int .i64 x.n, .int .i64 x.i, .int .i64 (G x).e, .slice (G x).p (G x).n (G x).c]
abbrev vE (G : K3 → G3) (x : K3) : Value := .agg #[.int .i64 x.k, .int .i64 x.n, .int .i64 x.i, .int .i64 (G x).e, .slice (G x).p (G x).n (G x).c]
def flat3 (G : K3 → G3) (l : List K3) : List Value := l.flatMap (cE G)
/-- the map's values are G's -/
def Gof (T : K3 → Option Value) (G : K3 → G3) : Prop := ∀ x, wf3 x → ∀ v, T x = some v → v = vE G x

/-- the things that have come so far -/
def V3 (D0 : DataW Value) (left : Lit → Bool) (ss : List K3) : Prop := ss.Nodup ∧ (∀ x ∈ ss, wf3 x) ∧ ∀ x : K3, wf3 x → (x ∈ ss ↔ Maps.has D0 (pk3 x) = true ∧ left (pk3 x) = false)
theorem V3.start (D0 : DataW Value) : V3 D0 (Maps.has D0) [] := ⟨List.nodup_nil, fun _ h => (by cases h), fun x _ => by cases Maps.has D0 (pk3 x) <;> simp⟩
theorem V3.step {D0 : DataW Value} {left : Lit → Bool} {ss : List K3} (h : V3 D0 left ss) {x : K3} (hw : wf3 x) {y : DataW Value} (hlk : left (pk3 x) = true) (hat : ∀ zd, D0.atKey (pk3 x) zd = y) : V3 D0 (fun z => left z && !z.sameKey (pk3 x)) (ss ++ [x]) := by
  have hhas : Maps.has D0 (pk3 x) = true := has_true_of_atKey hat
  have hnew : x ∉ ss := fun hx => by have := ((h.2.2 x hw).1 hx).2; rw [hlk] at this; cases this
  refine ⟨List.nodup_append.2 ⟨h.1, by simp, fun a ha b hb => by simp at hb; subst hb; exact fun e => hnew (e ▸ ha)⟩, fun a ha => ?_, fun y hy => ?_⟩
  · rcases List.mem_append.1 ha with ha | ha
    · exact h.2.1 a ha
    · rw [List.mem_singleton.1 ha]; exact hw
  · by_cases e : y = x
    · subst e
      have hs : (pk3 y).sameKey (pk3 y) = true := WideAt.sameKey_self (pk3_lit hw)
      simp [hhas, hs]
    · have hs : (pk3 y).sameKey (pk3 x) = false := sameKey_ne (fun e2 => e (pk3_inj hy hw e2))
      simp [h.2.2 y hy, e, hs]
/-- what the map has at a key that is there -/
theorem Pd3.val {D : DataW Value} {c : Nat} {T : K3 → Option Value} (h : Pd3 D c T) {G : K3 → G3} (hG : Gof T G) {x : K3} (hw : wf3 x) {v : Value} (hat : ∀ zd, D.atKey (pk3 x) zd = .held v) : v = vE G x := by
  cases hz : T x with
  | none =>
    have h1 := h.no x hw hz
    rw [has_true_of_atKey hat] at h1
    cases h1
  | some u =>
    have h1 := (h.yes x hw u hz).2 (.held v)
    rw [hat] at h1
    injection h1 with h1
    rw [h1]
    exact hG x hw u hz

set_option maxRecDepth 100000 in
set_option maxHeartbeats 2000000 in
theorem vals3_1 (F : Fence) (n : Nat) (h10 : F.fn 131) (hro : F.round = none) (hn : 1 ≤ n) (l Bm b nn : Nat) (D0 : DataW Value) (G : K3 → G3) (T : K3 → Option Value) (hT : Pd3 D0 nn T) (hG : Gof T G) (J Jx : List K3 → World → Prop)
    (hY : ∀ pre x W, J pre W → pre.length < Maps.size D0 → YieldAt F (n - 1) Tryz.prog l #[vE G x] W fun e W' => (e = .returned (.bool true) ∧ J (pre ++ [x]) W' ∧ KeepsWalks W W') ∨ (e = .returned (.bool false) ∧ Jx (pre ++ [x]) W'))
    (W : World) (hJ : AbidesFrom W.heap.size J) (hm : W.cell? ⟨Bm, 0, none⟩ = some (.map (some b))) (hown : W.ownsMap Tryz.prog 83 idK b nn D0) (h0 : J [] W) :
    CallsIn F n Tryz.prog 131 #[.func (.yield l) #[] #[], .pointer (some ⟨Bm, 0, none⟩)] W fun e W' => (∃ v, e = .returned v) ∧ ((∃ ss, V3 D0 (fun _ => false) ss ∧ J ss W') ∨ (∃ pre : List K3, True ∧ Jx pre W')) := by
  refine callsIn_of_wp Tryz.func131 rfl h10 ?_ hro
  simp only [Tryz.ntmps131, List.size_toArray, List.length_cons, List.length_nil, Nat.reduceAdd, Nat.reduceSub, Array.replicate_succ, Array.replicate_zero, List.push_toArray, List.append_toArray, List.nil_append, List.cons_append]
  gi_wp2_with (first
    | (gi_at_range; refine wpListIn_range_own _ rfl _ 88 rfl 83 85 p3Law Tryz.underlying88 _ b nn _ rfl hown ?_; intro w0 hrg0 hg0 hs0)
    | gi_in)
  go_frame
  gi_loopw [4] (fun _ wr => ∃ (left : Lit → Bool) (cnt : Nat) (ss : List K3), wr.ranges Tryz.prog 83 idK b W.heap.size nn D0 left cnt ∧ ss.length + cnt ≤ Maps.size D0 ∧ V3 D0 left ss ∧ J ss wr)
    (fun _ wr => wr.rangeLeft b W.heap.size)
  case atStart =>
    exact ⟨_, _, [], hrg0, by simp, V3.start D0, hJ [] W w0 none h0 hg0 (fun r e => by cases e)⟩
  case round =>
    obtain ⟨left, cnt, ss, hrg, hcs, hC, hJs⟩ := hrel
    gi_wp2_with (first
      | (gi_at_next; refine wpListIn_next_ranges _ rfl _ rfl 83 p3Law idK (fun x : K3 => pv3 x) id (fun key kl hk => by obtain ⟨x, hx, _⟩ := key3 hk; exact ⟨x, hx⟩) (fun v _ _ => ⟨v, rfl⟩) b W.heap.size nn _ _ _ rfl hrg ?_ ?_)
      | gi_in)
    · intro hc0 hl0
      gi_wp2
      go_end0
      obtain ⟨q1, q2, q3⟩ := hC
      exact ⟨⟨_, rfl⟩, .inl ⟨ss, ⟨q1, q2, fun x hx => by rw [q3 x hx, hl0]⟩, hJs⟩⟩
    · intro x c kl y yp w2 cnt2 hkey hlk hv hat hrg2 hlt hg2 hs2 hen
      obtain ⟨x', ex, hwx, rfl⟩ := key3 hkey
      obtain rfl : x = x' := by
        cases x
        cases x'
        simpa using ex
      have hy0 : y = .held c := by have := hv; simp only [idK, Option.some.injEq, Prod.mk.injEq] at this; exact this.1.symm
      rw [hy0] at hat
      have hc := hT.val hG hwx hat
      rw [hc] at hen
      have hJ2 : J ss w2 := hJ ss wr w2 (some W.heap.size) hJs hg2 (fun r e => by cases e; exact ⟨Nat.le_refl _, hrg.iter_walk⟩)
      obtain ⟨w5, hw5⟩ : ∃ z, z = w2.alloc (.cells #[.int .i64 x.k, .int .i64 x.n, .int .i64 x.i, .int .i64 (G x).e, .slice (G x).p (G x).n (G x).c] 85) := ⟨_, rfl⟩
      have hJ3 : J ss w5 := hJ ss w2 _ none hJ2 (by rw [hw5]; exact ⟨rfl, rfl, rfl, by simp, fun k hk _ => blk_alloc_lt _ _ _ hk⟩) (fun r e => by cases e)
      obtain ⟨fn, tmps, assign, body, hy, hR⟩ := hY ss x _ hJ3 (by omega)
      have hC2 := hC.step (x := x) hwx hlk hat
      have HR : Hid (wr.ranges Tryz.prog 83 idK b W.heap.size nn D0 left cnt → True) := fun _ => trivial
      have KW : KeepsWalks w2 w5 := by rw [hw5]; exact KeepsWalks.alloc w2 _
      obtain ⟨xk, xn, xi⟩ := x
      obtain ⟨⟨ge, gp, gn, gc⟩, hgx⟩ : ∃ z, z = G ⟨xk, xn, xi⟩ := ⟨_, rfl⟩
      simp only [vE] at hy hen
      rw [← hgx] at hw5 hy hen
      dsimp only at hw5 hy hR hen
      clear hs2 hJ2 hgx hc hy0 hv hat HR
      subst hw5
      gi_wp2
      refine hR.mono ?_
      rintro e W3 (⟨rfl, hJ3', hk3⟩ | ⟨rfl, hJx3⟩)
      · gi_wp2
        have hrg3 := (hrg2.of_walks KW).of_walks hk3
        go_roundw
        case rel => exact ⟨_, cnt2, ss ++ [⟨xk, xn, xi⟩], hrg3, by simp; omega, hC2, hJ3'⟩
        case measure => rw [hrg3.left_eq, hrg.left_eq]; exact hlt
      · gi_wp2
        refine bodyPost_ret (results_none rfl _ _ _) rfl ?_
        exact ⟨⟨_, rfl⟩, .inr ⟨_, trivial, hJx3⟩⟩

theorem vals3_stops (F : Fence) (n : Nat) (h10 : F.fn 131) (hro : F.round = none) (hn : 1 ≤ n) (Bm b nn : Nat) (D0 : DataW Value) (G : K3 → G3) (T : K3 → Option Value) (hT : Pd3 D0 nn T) (hG : Gof T G) (w : World) (hBm : Bm < w.heap.size)
    (hm : w.cell? ⟨Bm, 0, none⟩ = some (.map (some b))) (hown : w.ownsMap Tryz.prog 83 idK b nn D0) :
    SeqStopsK F n Tryz.prog 131 #[.pointer (some ⟨Bm, 0, none⟩)] (fun x : K3 => #[vE G x]) KeepsWalks (fun ss => V3 D0 (fun _ => false) ss) (fun _ => True) (Maps.size D0) w := fun l J Jx W hW hJ _ hY h0 => by
  have hown' : W.ownsMap Tryz.prog 83 idK b nn D0 := by
    have hbl := hown.lt
    obtain ⟨es, clock, hb, Ft, hs, hD⟩ := hown
    exact ⟨es, clock, (hW.block b hbl).trans hb, Ft, hs, hD⟩
  exact vals3_1 F n h10 hro hn l Bm b nn D0 G T hT hG J Jx hY W hJ ((hW.cell (p := ⟨Bm, 0, none⟩) hBm).trans hm) hown' h0

theorem infoR0 : (Tryz.prog.info? 85).map (fun i => (i.zero.map (·.cells.size), i.size, i.bytes)) = some (some 5, 5, 56) := by kernel_rfl
theorem infoR : ∃ i z, Tryz.prog.info? 85 = some i ∧ i.zero = some z ∧ i.size = 5 ∧ i.bytes = 56 ∧ z.cells.size = 5 := by
  obtain ⟨i, hi, he⟩ := Option.map_eq_some_iff.1 infoR0
  simp only [Prod.mk.injEq] at he
  obtain ⟨h1, h2, h3⟩ := he
  obtain ⟨z, hz, h4⟩ := Option.map_eq_some_iff.1 h1
  exact ⟨i, z, hi, hz, h2, h3, h4⟩
theorem flat3_append (G : K3 → G3) (l m : List K3) : flat3 G (l ++ m) = flat3 G l ++ flat3 G m := by unfold flat3; rw [List.flatMap_append]

set_option maxRecDepth 100000 in
set_option maxHeartbeats 2000000 in
/-- slices.AppendSeq(nil, maps.Values(m)) -/
theorem apvals (Bm b nn : Nat) (D0 : DataW Value) (G : K3 → G3) (T : K3 → Option Value) (hT : Pd3 D0 nn T) (hG : Gof T G) (hsz : Maps.size D0 ≤ 100000) (w : World) (hBm : Bm < w.heap.size) (hm : w.cell? ⟨Bm, 0, none⟩ = some (.map (some b))) (hown : w.ownsMap Tryz.prog 83 idK b nn D0) :
    CallsIn Fence.wide 4 Tryz.prog 130 #[.slice none 0 0, .func (.func 131) #[] #[.pointer (some ⟨Bm, 0, none⟩)]] w fun e w' => ∃ v ss, e = .returned v ∧ V3 D0 (fun _ => false) ss ∧ w'.ownsRow w.heap.size 85 5 v ss.length (flat3 G ss) ∧ Below w.heap.size w w' := by
  have hte : 94 ≠ 85 := by decide
  have hb0 : Below w.heap.size w (w.alloc (.cells #[.slice none 0 0] 94)) := (Below.refl _ w).alloc (Nat.le_refl _) _
  have hown1 : (w.alloc (.cells #[.slice none 0 0] 94)).ownsMap Tryz.prog 83 idK b nn D0 := by
    have hbl := hown.lt
    obtain ⟨es, clock, hb, Ft, hs, hD⟩ := hown
    exact ⟨es, clock, (hb0.block b hbl).trans hb, Ft, hs, hD⟩
  have hseq := vals3_stops Fence.wide 3 trivial rfl (by omega) Bm b nn D0 G T hT hG (w.alloc (.cells #[.slice none 0 0] 94)) (by simp; omega) ((hb0.cell (p := ⟨Bm, 0, none⟩) hBm).trans hm) hown1
  obtain ⟨ti, tz, hi1, hi2, hi3, hi4, hi5⟩ := infoR
  refine callsIn_of_wp_marks Tryz.func130 rfl trivial ?_ rfl
  simp only [Tryz.ntmps130, List.size_toArray, List.length_cons, List.length_nil, Nat.reduceAdd, Nat.reduceSub, Array.replicate_succ, Array.replicate_zero, List.push_toArray, List.append_toArray, List.nil_append, List.cons_append]
  gi_wp2
  refine wpIn_rangeFunc_ownH rfl (by omega) (gf := 131) (lb := #[.pointer (some ⟨Bm, 0, none⟩)]) rfl trivial (enters_of Tryz.func131 (by kernel_rfl) rfl)
    hseq walksK_t walksK_b (Below.refl _ _) (fun _ => rfl)
    (fun pre W => (∃ v, Boxed W w.heap.size 94 v ∧ W.ownsRow w.heap.size 85 5 v pre.length (flat3 G pre) ∧ True) ∧ Below w.heap.size w W)
    (fun _ _ _ => False)
    (OwnFrom.and (Own.from (holdsRow_own w.heap.size w.heap.size 94 85 5 List.length (flat3 G) (fun _ _ => True)) _) (ownFrom_below (Nat.le_refl _) (by simp)))
    (fun _ _ _ _ _ hs _ _ => hs)
    ⟨⟨_, Boxed.new w _ _, World.ownsRow_nil _ _ _ _, trivial⟩, hb0⟩
    (fun x a' W => ∃ Bx, w.heap.size ≤ Bx ∧ W.cell? ⟨Bx, 0, none⟩ = some (.int .i64 x.k) ∧ W.cell? ⟨Bx, 1, none⟩ = some (.int .i64 x.n) ∧ W.cell? ⟨Bx, 2, none⟩ = some (.int .i64 x.i) ∧ W.cell? ⟨Bx, 3, none⟩ = some (.int .i64 (G x).e) ∧ W.cell? ⟨Bx, 4, none⟩ = some (.slice (G x).p (G x).n (G x).c) ∧ a' = { tmps := #[.slice none 0 0, .func (.func 131) #[] #[.pointer (some ⟨Bm, 0, none⟩)], .pointer (some ⟨w.heap.size, 0, none⟩), undef, .slice none 0 0, .pointer (some ⟨Bx, 0, none⟩), .func (.func 131) #[] #[.pointer (some ⟨Bm, 0, none⟩)], vE G x, undef, undef, undef, undef, undef], defers := [] })
    (fun x a' s A B row hs hg hr => by
      obtain ⟨Bx, h1, h2, h3, h4, h5, h6, h7⟩ := hs
      exact ⟨Bx, h1, cell_kept h2 hg (fun r e => (hr r e).2), cell_kept h3 hg (fun r e => (hr r e).2), cell_kept h4 hg (fun r e => (hr r e).2), cell_kept h5 hg (fun r e => (hr r e).2), cell_kept h6 hg (fun r e => (hr r e).2), h7⟩) ?assign ?body ?done ?stop
  case assign =>
    rintro l pre x W K hi hK
    obtain ⟨xk, xn, xi⟩ := x
    obtain ⟨⟨ge, gp, gn, gc⟩, hgx⟩ : ∃ z, z = G ⟨xk, xn, xi⟩ := ⟨_, rfl⟩
    have hcl : Lv (W.alloc (.cells #[.int .i64 xk, .int .i64 xn, .int .i64 xi, .int .i64 ge, .slice gp gn gc] 85)) W.heap.size [.int .i64 xk, .int .i64 xn, .int .i64 xi, .int .i64 ge, .slice gp gn gc] := Lv.new W _ _
    have hBW := hi.2.size
    have HKK : Hid (K { tmps := #[.slice none 0 0, .func (.func 131) #[] #[.pointer (some ⟨Bm, 0, none⟩)], .pointer (some ⟨w.heap.size, 0, none⟩), undef, .slice none 0 0, .pointer (some ⟨W.heap.size, 0, none⟩), .func (.func 131) #[] #[.pointer (some ⟨Bm, 0, none⟩)], .agg #[.int .i64 xk, .int .i64 xn, .int .i64 xi, .int .i64 ge, .slice gp gn gc], undef, undef, undef, undef, undef], defers := [] } (W.alloc (.cells #[.int .i64 xk, .int .i64 xn, .int .i64 xi, .int .i64 ge, .slice gp gn gc] 85))) := by
      obtain ⟨⟨v, hv, hrow, _⟩, hB⟩ := hi
      refine hK _ _ ((KeepsOthers.alloc _ _).from _) (KeepsWalks.alloc _ _) ⟨⟨v, hv.alloc _, hrow.alloc _, trivial⟩, hB.trans ((Below.refl _ W).alloc hB.size _)⟩ ⟨W.heap.size, hBW, hcl.cell (j := 0) rfl, hcl.cell (j := 1) rfl, hcl.cell (j := 2) rfl, ?_, ?_, ?_⟩
      · rw [← hgx]; exact hcl.cell (j := 3) rfl
      · rw [← hgx]; exact hcl.cell (j := 4) rfl
      · simp only [vE]; rw [← hgx]
    clear hK hi hcl hBW
    simp only [vE]
    rw [← hgx]
    clear hgx
    gi_wp2_with gi_round_op_a
    exact HKK.out
  case body =>
    rintro l pre x a' W hl hrl ⟨⟨v, hv, hrow, _⟩, hB⟩ ⟨Bx, hBx, cx0, cx1, cx2, cx3, cx4, rfl⟩ hlen
    have hc2 := hv.cell
    have hf2 := hv.frozen
    have hBs2 := hB.size
    have hpf : flat3 G (pre ++ [x]) = flat3 G pre ++ [.int .i64 x.k, .int .i64 x.n, .int .i64 x.i, .int .i64 (G x).e, .slice (G x).p (G x).n (G x).c] := by rw [flat3_append]; rfl
    obtain ⟨xk, xn, xi⟩ := x
    obtain ⟨⟨ge, gp, gn, gc⟩, hgx⟩ : ∃ z, z = G ⟨xk, xn, xi⟩ := ⟨_, rfl⟩
    rw [← hgx] at cx3 cx4 hpf
    have hcl : Lv (W.alloc (.cells #[.int .i64 xk, .int .i64 xn, .int .i64 xi, .int .i64 ge, .slice gp gn gc] 85)) W.heap.size [.int .i64 xk, .int .i64 xn, .int .i64 xi, .int .i64 ge, .slice gp gn gc] := Lv.new W _ _
    have HCL : Hid (∀ j u, [Value.int .i64 xk, Value.int .i64 xn, .int .i64 xi, .int .i64 ge, .slice gp gn gc][j]? = some u → (W.alloc (.cells #[.int .i64 xk, .int .i64 xn, .int .i64 xi, .int .i64 ge, .slice gp gn gc] 85)).cell? ((⟨W.heap.size, 0, none⟩ : Addr).add j) = some u) := fun j u hj => by rw [Addr.add_mid, Nat.zero_add]; exact hcl.cell hj
    clear hcl
    simp only [vE]
    rw [← hgx]
    clear hgx
    dsimp only at cx0 cx1 cx2 cx3 cx4 hpf
    gi_wp2_with (first
      | (gi_at_builtin; refine wpListIn_append_own _ rfl _ _ 94 rfl w.heap.size 85 ti tz 5 56 Tryz.underlying94 hi1 hi2 hi3 hi4 hi5 (by decide) _ _ _ rfl (hrow.alloc _) ⟨W.heap.size, 0, none⟩ 1 1 [.int .i64 xk, .int .i64 xn, .int .i64 xi, .int .i64 ge, .slice gp gn gc] rfl rfl HCL.out (by simp [Value.oneCell']) (by unfold maxLen; omega) (by omega) (by simp; omega) ?_; intro v' w3 hown' hg3 hnil3
         obtain ⟨g', cap', rfl⟩ := ownsRow_succ hown'
         have hap := Boxed.appended hv hte hrow hBs2 (Nat.le_refl _) hown' hg3
         have hc3 := hap.1.cell
         have hf3 := hap.1.frozen
         go_frame)
      | gi_round_op_a)
    exact ⟨hap.2.2.2.1.from _, hap.2.2.2.1.walks, ⟨⟨_, hap.2.1, (by rw [hpf, List.length_append]; exact ⟨hap.2.2.1, trivial⟩)⟩, hB.trans hap.2.2.2.2⟩⟩
  case done =>
    rintro D ys W hD hS ⟨⟨v, hv, hrow, _⟩, hB⟩ hK
    have hc3 := hv.cell
    gi_wp2
    refine ⟨by simp, .inl ⟨_, _, rfl, run_takeDeferred hK, ?_⟩⟩
    exact ⟨_, results_tmp rfl _ _ _, v, ys, rfl, hS, ownsRow_putObj hrow _ hK rfl, hB.trans (belowK_b (w := w) (Nat.le_refl _) W D _ _ (by simp at hD; omega) hK rfl rfl)⟩
  case stop =>
    rintro D c pre W _ _ h _
    exact h.elim

set_option maxRecDepth 100000 in
theorem valsF_ok (mb : Nat) (w : World) : Calls Tryz.prog 89 #[.map (some mb)] w fun e w' => e = .returned (.func (.func 131) #[] #[.pointer (some ⟨w.heap.size, 0, none⟩)]) ∧ w' = w.alloc (.cells #[.map (some mb)] 88) := by
  go_enter Tryz.func89, Tryz.ntmps89
  go_wp2
  go_ret
  exact ⟨rfl, rfl⟩

set_option maxRecDepth 100000 in
theorem collect3 (Bm b nn : Nat) (D0 : DataW Value) (G : K3 → G3) (T : K3 → Option Value) (hT : Pd3 D0 nn T) (hG : Gof T G) (hsz : Maps.size D0 ≤ 100000) (w : World) (hBm : Bm < w.heap.size) (hm : w.cell? ⟨Bm, 0, none⟩ = some (.map (some b))) (hown : w.ownsMap Tryz.prog 83 idK b nn D0) :
    Calls Tryz.prog 88 #[.func (.func 131) #[] #[.pointer (some ⟨Bm, 0, none⟩)]] w fun e w' => ∃ v ss, e = .returned v ∧ V3 D0 (fun _ => false) ss ∧ w'.ownsRow w.heap.size 85 5 v ss.length (flat3 G ss) ∧ Kp (fun _ => False) w w' := by
  have HE : Hid (Calls _ _ _ w _) := callsIn_wide.1 (apvals Bm b nn D0 G T hT hG hsz w hBm hm hown)
  clear hown hm
  go_enter Tryz.func88, Tryz.ntmps88
  go_wp2_with fail
  refine HE.out.mono ?_
  rintro q w' ⟨v, ss, rfl, h1, h2, h3⟩
  have HF : Hid (V3 D0 (fun _ => false) ss ∧ w'.ownsRow w.heap.size 85 5 v ss.length (flat3 G ss) ∧ Kp (fun _ => False) w w') := ⟨h1, h2, Kp.of_below h3⟩
  clear h1 h2 h3 HE
  go_wp2
  go_ret
  exact ⟨v, ss, rfl, HF.out⟩
end Go.Proofs.YtmooddbhcccicaaGreatDoor
