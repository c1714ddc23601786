/- What binds a slot is told. -/
import Derived.Test.YtjpdbhkggcojaaaEe
namespace Go.Proofs.Ytjpdbhkggcojaaa
set_option linter.unusedVariables false
open Go.RowKit Go.Deep Go.Maps

/-- a command that is told: new memory -/
def Told (w w' : World) (c : Cs0) (zs : List Int) (v : Value) : Prop := ∃ nv, v = .agg (cmdA c nv) ∧ Ni w' (fun b => w.heap.size ≤ b) zs nv
theorem zC_cells : zeroC = cmdA cs00 nil0 := rfl
theorem ni_nil (w : World) (Z : Nat → Prop) : Ni w Z [] nil0 := ⟨none, 0, rfl, fun j u hu => by simp at hu, by simp⟩

set_option maxRecDepth 100000 in
set_option maxHeartbeats 4000000 in
theorem tbound_ok {w : World} {t mb mp qb qp cb cp : Nat} {bal frm nxt : Int} {pr : List Bool} {B : Int → Option (Vo × Value)} {O : Int → Option (Pq × Value)} (h : Tr w t mb mp qb qp cb cp bal frm nxt pr B O) (z : Int) (hz : -9223372036854775808 ≤ z ∧ z ≤ 9223372036854775807) :
    Calls Try.prog 17 #[.pointer (some ⟨t, 0, none⟩), .int .i64 z] w fun e w' => ∃ v, e = .returned (.tuple #[v, .bool (B z).isSome]) ∧ Kp (fun _ => False) w w' ∧ Told w w' ((B z).getD (vo0, nil0)).1.c ((B z).getD (vo0, nil0)).1.nodes v := by
  have HT : Hid (Tr w t mb mp qb qp cb cp bal frm nxt pr B O) := h
  have HM : Hid (∀ u, Kp (fun _ => False) w u → Calls _ _ _ u _) := fun u k => tmade_ok (h.keep k)
  have HZ : Hid (-9223372036854775808 ≤ z ∧ z ≤ 9223372036854775807) := hz
  obtain ⟨y, hy⟩ : ∃ y, y = (B z).getD (vo0, nil0) := ⟨_, rfl⟩
  obtain ⟨ok, hok⟩ : ∃ ok, ok = (B z).isSome := ⟨_, rfl⟩
  have HNy : Hid (Ni w (Zt t mb mp) y.1.nodes y.2) := by
    rw [hy]
    cases hB : B z with
    | none => exact ni_nil w _
    | some x => exact h.nb z x hB
  have HLk : Hid (∀ u, Kp (fun _ => False) w u → (Instr.lookup 62 (.map (some mb)) (.int .i64 z) true).run Try.prog u = .ok (.tuple #[.agg (vcell y.1 y.2).toArray, .bool ok]) u) := fun u k => by
    have := look_mm_ok uVote zVote (h.keep k).b z (z_wf hz)
    rw [vget, vsome, ← hy, ← hok] at this
    exact this
  rw [← hy, ← hok]
  obtain ⟨pn, capn, hnv, hfn, hln⟩ := HNy.out
  have HCl : Hid (∀ u, Kp (fun _ => False) w u → Calls _ _ _ u _) := fun u ku => clone_cmd y.1.c _ pn capn y.1.nodes u (hfn.keep ku (fun _ _ => id)) hln
  have HO2 : Hid ((vcell y.1 y.2).toArray.all (·.oneCell') = true) := vc_one y.1 (by rw [hnv]; rfl)
  have HNl : Hid (y.1.nodes.length * 8 ≤ 140737488355328) := hln
  obtain ⟨n, hn⟩ : ∃ n, n = y.1.nodes.length := ⟨_, rfl⟩
  have HN : Hid (n = y.1.nodes.length) := hn
  rw [← hn] at HCl hnv
  obtain ⟨xs, hxs⟩ : ∃ xs : List Value, xs = vcell y.1 y.2 := ⟨_, rfl⟩
  have HXS : Hid (xs.length = 14 ∧ (((xs.drop 2).take 12).toArray = cmdA y.1.c (.slice pn n capn))) := ⟨by rw [hxs]; rfl, by rw [hxs, hnv]; rfl⟩
  rw [← hxs] at HLk HO2
  obtain ⟨xa, hxa⟩ : ∃ xa : Array Value, xa = xs.toArray := ⟨_, rfl⟩
  have HXA : Hid (xa = xs.toArray) := hxa
  rw [← hxa] at HLk HO2
  clear h hz hy hok hfn hln hn hxs hxa hnv HNy
  go_enter Try.func17, Try.ntmps17
  go_wp2_with fail
  obtain ⟨u, hu⟩ : ∃ x, x = w.alloc (.cells zeroC 35) := ⟨_, rfl⟩
  have HL0 : Hid (Lv u w.heap.size zeroC.toList) := by rw [hu]; exact Lv.new w _ _
  have k0 : Kp (fun _ => False) w u := by rw [hu]; exact (Kp.refl _ _).alloc _
  have e0 : w.alloc (.cells zeroC 35) = u := hu.symm
  simp only [zeroC] at e0
  rw [e0]
  clear e0 hu
  obtain ⟨g, hg⟩ : ∃ g, g = w.heap.size := ⟨_, rfl⟩
  rw [← hg] at HL0 ⊢
  have HG : Hid (w.heap.size ≤ g ∧ g < u.heap.size) := ⟨by omega, HL0.out.lt (by decide)⟩
  clear hg
  refine (HM.out _ k0).mono ?_
  rintro e w' ⟨rfl, hw⟩
  obtain rfl := hw.symm
  clear hw
  have c19 := (HT.out.keep k0).c19
  have hlk := HLk.out u k0
  clear HM HLk
  go_wp2_with (first
    | (refine wpList_store_all rfl 55 _ _ rfl 14 u.heap.size (vcell vo0 nil0) xa.toList rfl (by rw [Array.toArray_toList]; rfl) (by exact Lv.new u _ _) szVo rfl (by rw [HXA.out]; exact HXS.out.1) (by rw [Array.toArray_toList]; exact HO2.out) ?_; intro u2 hl2 k2; have ku2 : Kp (fun _ => False) u u2 := ((Kp.refl (fun _ => False) u).alloc _).trans k2 (fun b hb e => by omega); have HLg : Hid (Lv u2 g zeroC.toList) := HL0.out.keep ku2 id; have k02 := k0.trans ku2 (fun _ _ e => e); have HL2 : Hid (Lv u2 u.heap.size xs) := (by rw [HXA.out] at hl2; exact hl2); clear hl2 k2)
    | (refine wpList_load_lv rfl 35 _ rfl u.heap.size 2 12 xs _ HL2.out rfl Try.underlying35 rfl szCmd (by rw [HXS.out.1]; omega) ?_; rw [HXS.out.2])
    | (go_at_call 39; refine (HCl.out _ k02).mono ?_; rintro e w3 ⟨q, cq, rfl, k3, hfl⟩; have HFl : Hid (Fl w3 _ q _) := hfl; have HLg3 : Hid (Lv w3 g zeroC.toList) := HLg.out.keep k3 id; have HO3 : Hid ((cmdA y.1.c (.slice q n cq)).toList.toArray.all (·.oneCell') = true) := cmd_one _ rfl; clear hfl)
    | (refine wpList_store_all rfl 35 _ _ rfl 12 g zeroC.toList (cmdA y.1.c (.slice q n cq)).toList rfl rfl HLg3.out szCmd rfl rfl HO3.out ?_; intro w4 hl4 k4))
  have hld := hl4.load dsCmd szCmd rfl
  refine bodyPost_ret (res_cell_tmp Try.results17 _ _ g _ rfl hld) rfl ?_
  have k04 : Kp (fun _ => False) w w4 := (k02.trans k3 (fun _ _ e => e)).trans k4 (fun b hb e => by have := HG.out; omega)
  refine ⟨_, rfl, k04, .slice q n cq, rfl, q, cq, by rw [HN.out], (HFl.out.keep k4 (fun b hb e => by have := HG.out; have := ku2.size; omega)).mono (fun b hb => by have := k02.size; omega), HNl.out⟩
end Go.Proofs.Ytjpdbhkggcojaaa
