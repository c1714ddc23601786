/- A chain's Get. -/
import Derived.Test.YtjbgpbafgpdciaaCp
namespace Go.Proofs.Ytjbgpbafgpdciaa
set_option linter.unusedVariables false
open Go.RowKit Go.Deep Go.Maps

/-- what C has at z, or nothing -/
abbrev at0 (C : Int → Option Cv) (z : Int) : Cv := (C z).getD (cs00, [], nil0)
/-- x is told, its list in memory made since w -/
def Told (w w' : World) (x : Cv) (v : Value) : Prop := ∃ nv, v = .agg (cmdA x.1 nv) ∧ Ni w' (fun b => w.heap.size ≤ b ∧ b < w'.heap.size) x.2.1 nv

set_option maxRecDepth 100000 in
set_option maxHeartbeats 1600000 in
theorem cget_ok {w : World} {Z : Nat → Prop} {t m q c : Nat} {nxt : Int} {C : Int → Option Cv} (h : Ch w Z t m q c nxt C) (z : Int) (hz : -9223372036854775808 ≤ z ∧ z ≤ 9223372036854775807) :
    Calls Try.prog 14 #[.pointer (some ⟨t, 0, none⟩), .int .i64 z] w fun e w' => ∃ v, e = .returned (.tuple #[v, .bool (C z).isSome]) ∧ Kp (fun _ => False) w w' ∧ Told w w' (at0 C z) v := by
  have HM : Hid (∀ u, Kp (fun _ => False) w u → Calls _ _ _ u _) := fun u k => cmade_ok (h.keep0 k)
  have HT : Hid (Ch w Z t m q c nxt C) := h
  obtain ⟨y, hy⟩ : ∃ y, y = at0 C z := ⟨_, rfl⟩
  obtain ⟨ok, hok⟩ : ∃ ok, ok = (C z).isSome := ⟨_, rfl⟩
  have HNy : Hid (Ni w Z y.2.1 y.2.2) := by rw [hy]; exact Ch.get (t := t) (m := m) (q := q) (c := c) (nxt := nxt) h.ni z
  have HLk : Hid (∀ u, Kp (fun _ => False) w u → (Instr.lookup 53 (.map (some m)) (.int .i64 z) true).run Try.prog u = .ok (.tuple #[.agg (ccell y), .bool ok]) u) := fun u k => by
    have := look_mm_ok uCmd zCmd (h.keep0 k).mm z (z_wf hz)
    rw [cget, csome, ← hok] at this
    rw [hy]
    exact this
  have HO2 : Hid ((ccell y).toList.toArray.all (·.oneCell') = true) := cc_one y HNy.out
  rw [← hy, ← hok]
  obtain ⟨pn, capn, hnv, hfn, hln⟩ := HNy.out
  have HCl : Hid (∀ u, Kp (fun _ => False) w u → Calls _ _ _ u _) := fun u ku => clone_cmd y.1 _ pn capn y.2.1 u (hfn.keep ku (fun _ _ => id)) hln
  have HNl : Hid (y.2.1.length * 8 ≤ 140737488355328) := hln
  rw [← hnv] at HCl
  obtain ⟨n, hn⟩ : ∃ n, n = y.2.1.length := ⟨_, rfl⟩
  have HN : Hid (n = y.2.1.length) := hn
  rw [← hn] at HCl
  obtain ⟨ya, hya⟩ : ∃ ya : Array Value, ya = ccell y := ⟨_, rfl⟩
  have HYA : Hid (ya = ccell y) := hya
  have hya2 : cmdA y.1 y.2.2 = ya := hya.symm
  rw [← hya] at HLk HO2
  rw [hya2] at HCl
  clear h hz hy hok hfn hln hn hya hya2 hnv HNy
  go_enter Try.func14, Try.ntmps14
  go_wp2_with fail
  obtain ⟨u, hu⟩ : ∃ x, x = w.alloc (.cells zeroC 34) := ⟨_, rfl⟩
  have HL0 : Hid (Lv u w.heap.size zeroC.toList) := by rw [hu]; exact Lv.new w _ _
  have k0 : Kp (fun _ => False) w u := by rw [hu]; exact (Kp.refl _ _).alloc _
  have e0 : w.alloc (.cells zeroC 34) = u := hu.symm
  simp only [zeroC] at e0
  rw [e0]
  clear e0 hu
  obtain ⟨g, hg⟩ : ∃ g, g = w.heap.size := ⟨_, rfl⟩
  rw [← hg] at HL0 ⊢
  have HG : Hid (w.heap.size ≤ g ∧ g < u.heap.size) := ⟨by omega, HL0.out.lt (by decide)⟩
  clear hg
  refine (HM.out _ k0).mono ?_
  rintro e w' ⟨rfl, hw⟩
  obtain rfl := hw.symm
  clear hw
  have c0 := (HT.out.keep0 k0).c0
  have hlk := HLk.out u k0
  clear HM HLk
  go_wp2_with (first
    | (refine wpList_store_all rfl 34 _ _ rfl 12 u.heap.size zeroC.toList ya.toList rfl (by rw [Array.toArray_toList]; rfl) (by exact Lv.new u _ _) szCmd rfl (by rw [HYA.out]; rfl) HO2.out ?_; intro u2 hl2 k2; have ku2 : Kp (fun _ => False) u u2 := ((Kp.refl (fun _ => False) u).alloc _).trans k2 (fun b hb e => by omega); have HLg : Hid (Lv u2 g zeroC.toList) := HL0.out.keep ku2 id; have k02 := k0.trans ku2 (fun _ _ e => e); have HL2 : Hid (Lv u2 u.heap.size ya.toList) := hl2; clear hl2 k2)
    | (refine wpList_load_all rfl 34 _ rfl 12 u.heap.size ya.toList rfl HL2.out dsCmd szCmd (by rw [HYA.out]; rfl) ?_; rw [Array.toArray_toList])
    | (go_at_call 23; refine (HCl.out _ k02).mono ?_; rintro e w3 ⟨q, cq, rfl, k3, hfl⟩; have HFl : Hid (Fl w3 _ q _) := hfl; have HLg3 : Hid (Lv w3 g zeroC.toList) := HLg.out.keep k3 id; have HO3 : Hid ((cmdA y.1 (.slice q n cq)).toList.toArray.all (·.oneCell') = true) := cmd_one _ rfl; clear hfl)
    | (refine wpList_store_all rfl 34 _ _ rfl 12 g zeroC.toList (cmdA y.1 (.slice q n cq)).toList rfl rfl HLg3.out szCmd rfl rfl HO3.out ?_; intro w4 hl4 k4))
  have hld := hl4.load dsCmd szCmd rfl
  refine bodyPost_ret (res_cell_tmp Try.results14 _ _ g _ rfl hld) rfl ?_
  have k04 : Kp (fun _ => False) w w4 := (k02.trans k3 (fun _ _ e => e)).trans k4 (fun b hb e => by have := HG.out; omega)
  refine ⟨_, rfl, k04, .slice q n cq, rfl, q, cq, by rw [HN.out], (HFl.out.keep k4 (fun b hb e => by have := HG.out; have := ku2.size; omega)).mono (fun b hb => by have := k02.size; have := k4.size; omega), HNl.out⟩
end Go.Proofs.Ytjbgpbafgpdciaa
