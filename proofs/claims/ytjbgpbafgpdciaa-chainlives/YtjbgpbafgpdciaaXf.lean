/- The document's chain: Learn of a slot that has a command. -/
import Derived.Test.YtjbgpbafgpdciaaXd
import Derived.Test.YtjbgpbafgpdciaaXe
namespace Go.Proofs.Ytjbgpbafgpdciaa
set_option linter.unusedVariables false
set_option linter.unusedSimpArgs false
open Go.RowKit Go.Deep Go.Maps

set_option maxRecDepth 100000 in
set_option maxHeartbeats 1600000 in
theorem xclearn_old {w : World} {base t : Nat} {v : Value} {l : List (Xk × Value)} (h : Xq w base t v l) (s : Int) (hs : 1 ≤ s ∧ s ≤ 1152921504606846976) (d : Cs0) (zs : List Int) (nv0 : Value) (Z : Nat → Prop) (hn : Ni w Z zs nv0) (y : Cv) (hx : CX (l.map (·.1)) s = some y) :
    Calls Try.prog 11 #[.pointer (some ⟨t, 0, none⟩), .int .i64 s, .agg (cmdA d nv0)] w fun e w' => ∃ b : Bool, e = .returned (.int .i64 (if b then 0 else 130)) ∧ (b = true ↔ d = y.1 ∧ zs = y.2.1) ∧ Kp (fun _ => False) w w' := by
  have hs1 : ¬ (s < 1) := by omega
  have hs2 : ¬ (s > 1152921504606846976) := by omega
  have HNI : Hid (Ni w Z zs nv0) := hn
  have k0 : Kp (fun _ => False) w (w.alloc (.cells (cmdA d nv0) 34)) := (Kp.refl _ _).alloc _
  have HBx : Hid (Lv (w.alloc (.cells (cmdA d nv0) 34)) w.heap.size (cmdA d nv0).toList) := Lv.new w _ _
  have HG : Hid (Calls Try.prog 15 #[.pointer (some ⟨t, 0, none⟩), .int .i64 s] (w.alloc (.cells (cmdA d nv0) 34)) fun e w' => ∃ v, e = .returned (.tuple #[v, .bool true]) ∧ Kp (fun _ => False) (w.alloc (.cells (cmdA d nv0) 34)) w' ∧ Told (w.alloc (.cells (cmdA d nv0) 34)) w' y v) := by
    have := xcget2 (h.xh.keep0 k0) s
    rw [show at0 (CX (l.map (·.1))) s = y by show (CX (l.map (·.1)) s).getD _ = y; rw [hx]; rfl, hx] at this
    exact this
  have HK0 : Hid (Kp (fun _ => False) w (w.alloc (.cells (cmdA d nv0) 34))) := k0
  clear h hn hs k0 hx
  obtain ⟨va, hva⟩ : ∃ va : Array Value, va = cmdA d nv0 := ⟨_, rfl⟩
  have HVA : Hid (va = cmdA d nv0) := hva
  have e0 : (#[.pointer (some ⟨t, 0, none⟩), .int .i64 s, .agg (cmdA d nv0)] : Array Value) = #[.pointer (some ⟨t, 0, none⟩), .int .i64 s, .agg va] := by rw [hva]
  rw [e0]
  rw [← hva] at HG HK0 HBx
  clear e0 hva
  go_enter Try.func11, Try.ntmps11
  go_wp2_with fail
  refine HG.out.mono ?_
  rintro e w1 ⟨vg, rfl, k1, nvg, rfl, hni⟩
  have HNg : Hid (Ni w1 (fun b => (w.alloc (.cells va 34)).heap.size ≤ b ∧ b < w1.heap.size) y.2.1 nvg) := hni
  have HOc : Hid ((cmdA y.1 nvg).toList.toArray.all (·.oneCell') = true) := cmd_one y.1 (by obtain ⟨_, _, e, _⟩ := hni; rw [e]; rfl)
  obtain ⟨ya, hya⟩ : ∃ ya : Array Value, ya = cmdA y.1 nvg := ⟨_, rfl⟩
  have HYA : Hid (ya = cmdA y.1 nvg) := hya
  rw [← hya] at HOc ⊢
  clear HG hni hya
  have HSm : Hid (∀ u, Kp (fun _ => False) w1 u → Calls Try.prog 26 #[.agg va, .agg ya] u fun e w' => ∃ b : Bool, e = .returned (.bool b) ∧ (b = true ↔ d = y.1 ∧ zs = y.2.1) ∧ Kp (fun _ => False) u w') := fun u ku => by
    rw [HVA.out, HYA.out]
    exact xsame_ok d y.1 _ _ zs y.2.1 nv0 nvg u (HNI.out.keep ((HK0.out.trans k1 (fun _ _ e => e)).trans ku (fun _ _ e => e)) (fun _ _ => id)) (HNg.out.keep ku (fun _ _ => id))
  have hw01 : Kp (fun _ => False) w w1 := HK0.out.trans k1 (fun _ _ e => e)
  have HL1 : Hid (Lv w1 w.heap.size va.toList) := by have := HBx.out.keep k1 id; rw [HVA.out]; rw [HVA.out] at this; exact this
  clear HNI HNg HK0 HBx k1
  obtain ⟨g, hg⟩ : ∃ g, g = w.heap.size := ⟨_, rfl⟩
  rw [← hg] at HL1 ⊢
  clear hg
  go_wp2_with (first
    | (refine wpList_store_all rfl 34 _ _ rfl 12 w1.heap.size zeroC.toList ya.toList rfl (by rw [Array.toArray_toList]; rfl) (by exact Lv.new w1 _ _) szCmd rfl (by rw [HYA.out]; rfl) HOc.out ?_; intro w2 hl2 k2; have ku2 : Kp (fun _ => False) w1 w2 := ((Kp.refl (fun _ => False) w1).alloc _).trans k2 (fun b hb e => by omega); have HLg : Hid (Lv w2 g va.toList) := HL1.out.keep ku2 id; have HL2 : Hid (Lv w2 w1.heap.size ya.toList) := hl2; clear hl2 k2)
    | (refine wpList_load_all rfl 34 _ rfl 12 w1.heap.size ya.toList rfl HL2.out dsCmd szCmd (by rw [HYA.out]; rfl) ?_; rw [Array.toArray_toList])
    | (refine wpList_load_all rfl 34 _ rfl 12 g va.toList rfl HLg.out dsCmd szCmd (by rw [HVA.out]; rfl) ?_; rw [Array.toArray_toList])
    | (go_at_call 26; refine (HSm.out _ ku2).mono ?_; rintro e w3 ⟨b, rfl, hb, k3⟩; have HB : Hid (b = true ↔ d = y.1 ∧ zs = y.2.1) := hb; clear hb; cases b))
  · go_ret
    exact ⟨false, rfl, HB.out, (hw01.trans ku2 (fun _ _ e => e)).trans k3 (fun _ _ e => e)⟩
  · go_ret
    exact ⟨true, rfl, (by simpa using HB.out), (hw01.trans ku2 (fun _ _ e => e)).trans k3 (fun _ _ e => e)⟩
end Go.Proofs.Ytjbgpbafgpdciaa
