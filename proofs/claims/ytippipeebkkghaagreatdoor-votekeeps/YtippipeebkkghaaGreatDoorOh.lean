/- frame.attempt, of commands. -/
import Derived.Test.YtippipeebkkghaaGreatDoorOg
import Derived.Defers
import Derived.Recover
namespace Go.Proofs.YtippipeebkkghaaGreatDoor
set_option linter.unusedVariables false
set_option linter.unusedSimpArgs false
open Go.RowKit Go.Deep

theorem catch_p (p : Addr) (x : Int) (ty : TypeId) (pv : Value) (older : List PanicEntry) (w : World) (hc : w.cell? p = some (.int .i64 x)) (hz : w.frozen? p = false) :
    CallsD Tryz.prog 153 #[.pointer (some p)] (.panicking ({ v := .iface ty pv, recovered := false } :: older)) w fun e u' w' =>
      e = .returned (.tuple #[]) ∧ u' = .panicking ({ v := .iface ty pv, recovered := true } :: older) ∧ w' = w.setCell p (.int .i64 51) := by
  refine callsD_of_wpS Tryz.func153 rfl fun c₀ cs hu => ?_
  apply wpS_seq
  apply wpS_region
  simp [wpOpsS, go_sem, recoverD, hu, Tryz.ntmps153, Exit.thenS]
  refine wpS_cond (t := true) (by simp [Act.eval, Array.replicate]) ?_
  simp only [if_true]
  apply wpS_region
  simp [wpOpsS, go_sem, hc, hz, bodyPostS, results, Tryz.results153]

theorem catch_i (p : Addr) (w : World) :
    CallsD Tryz.prog 153 #[.pointer (some p)] .returning w fun e u' w' => e = .returned (.tuple #[]) ∧ u' = .returning ∧ w' = w := by
  refine callsD_of_wpS Tryz.func153 rfl fun c₀ cs hu => ?_
  apply wpS_seq
  apply wpS_region
  simp [wpOpsS, go_sem, recoverD, hu, Tryz.ntmps153, Exit.thenS]
  refine wpS_cond (t := false) (by simp [Act.eval, Array.replicate]) ?_
  simp only [Bool.false_eq_true, if_false]
  refine wpS_of_wp (wp_skip ?_)
  cases c₀
  simp_all [bodyPostS, results, Tryz.results153]

theorem res_cell_cell {fn : Func} {t t2 : Tmp} {ty ty2 : TypeId} (h : fn.results = #[.cell t ty, .cell t2 ty2]) (tmps : Array Value) (w : World) (g g2 : Nat) (v v2 : Value) (ht : tmps.getD t undef = .pointer (some ⟨g, 0, none⟩)) (hl : (loadVar ty ⟨g, 0, none⟩).run Tryz.prog w = .ok v w) (ht2 : tmps.getD t2 undef = .pointer (some ⟨g2, 0, none⟩)) (hl2 : (loadVar ty2 ⟨g2, 0, none⟩).run Tryz.prog w = .ok v2 w) :
    (results fn tmps).run Tryz.prog w = .ok (.tuple #[v, v2]) w := by
  have ht' : tmps[t]?.getD undef = .pointer (some ⟨g, 0, none⟩) := by simpa using ht
  have ht2' : tmps[t2]?.getD undef = .pointer (some ⟨g2, 0, none⟩) := by simpa using ht2
  simp [results, h, ht', ht2', asAddr, hl, hl2]
set_option maxRecDepth 100000 in
theorem load_errno (g : Nat) (x : Int) (w : World) (h : w.cell? ⟨g, 0, none⟩ = some (.int .i64 x)) : (loadVar 37 ⟨g, 0, none⟩).run Tryz.prog w = .ok (.int .i64 x) w := by
  go_simp
/-- what attempt answers -/
def AtRes (xs : List Nat) (w : World) (e : Ending) (w' : World) : Prop := match okC xs with
  | some c => ∃ q cap, e = .returned (.tuple #[.agg (cmdA (csOf c) (.slice q c.nodes.length cap)), .int .i64 0]) ∧ Fl w' (fun b => w.heap.size ≤ b ∧ b < w'.heap.size) q ((intsOf c.nodes).map encI)
  | none => e = .returned (.tuple #[.agg zeroC, .int .i64 51])

set_option maxRecDepth 100000 in
set_option maxHeartbeats 3200000 in
theorem attempt_ok {Z : Nat → Prop} (r : Nat) (xs : List Nat) (w : World) (h : Cu Z w r xs) (hb : ∀ x ∈ xs, x < 256) (hZ : ∀ b, Z b → b < w.heap.size) : Calls Tryz.prog 106 #[.func (.func 107) #[] #[.pointer (some ⟨r, 0, none⟩)]] w fun e w' => AtRes xs w e w' ∧ Kp (fun b => b = r) w w' := by
  have hr : r < w.heap.size := by
    obtain ⟨q, m, c, h1, _⟩ := h
    exact World.block_lt_of_cell? _ _ h1
  obtain ⟨h2, hh2⟩ : ∃ x, x = w.heap.size := ⟨_, rfl⟩
  obtain ⟨g, hg⟩ : ∃ x, x = w.heap.size + 1 := ⟨_, rfl⟩
  obtain ⟨u, hu⟩ : ∃ x, x = (w.alloc (.cells zeroC 31)).alloc (.cells #[.int .i64 0] 37) := ⟨_, rfl⟩
  have z1 : (w.alloc (.cells zeroC 31)).heap.size = w.heap.size + 1 := by simp
  have k0 : Kp (fun _ => False) w u := by rw [hu]; exact ((Kp.refl _ _).alloc _).alloc _
  have HLh : Hid (Lv u h2 zeroC.toList) := by rw [hu, hh2]; exact (Lv.new w _ _).keep ((Kp.refl (fun _ => False) _).alloc _) id
  have HLg : Hid (Lv u g [.int .i64 0]) := by rw [hu, hg, ← z1]; exact Lv.new _ _ _
  have HK0 : Hid (Kp (fun b => b = r) w u) := k0.mono (fun _ _ e => e.elim)
  have HO : Hid (r < h2 ∧ h2 = w.heap.size ∧ g = h2 + 1 ∧ u.heap.size = g + 1) := by
    have : u.heap.size = w.heap.size + 2 := by rw [hu]; simp
    show _ ∧ _
    omega
  have HC : Hid (Calls _ _ _ u _) := rc1_ok r xs u (h.keep k0 id (fun _ _ => id)) hb (fun b hb => by have := hZ b hb; have := HO.out; omega)
  have hu' : (w.alloc (.cells #[.int .i64 0, .int .i64 0, .string ⟨#[]⟩, .int .i64 0, .int .i64 0, .int .i64 0, .int .i64 0, .int .i64 0, .int .u32 0, .int .i64 0, .int .i64 0, .slice none 0 0] 31)).alloc (.cells #[.int .i64 0] 37) = u := hu.symm
  have hmf : ∀ (fn : Fn) (first cap : Array Value) (w : World), (Instr.makeFunc fn first cap).run Tryz.prog w = .ok (.func fn first cap) w := fun _ _ _ _ => rfl
  clear h hb hZ hr hu z1 k0
  go_enter_defers Tryz.func106, Tryz.ntmps106
  go_wp2_with fail
  refine HC.out.mono ?_
  rintro e9 w1 ⟨hq, k1⟩
  have HK1 : Hid (Kp (fun b => b = r) w w1) := HK0.out.trans k1 (fun _ _ e => e)
  have HLh1 : Hid (Lv w1 h2 zeroC.toList) := HLh.out.keep k1 (fun e => by have := HO.out; omega)
  have HLg1 : Hid (Lv w1 g [.int .i64 0]) := HLg.out.keep k1 (fun e => by have := HO.out; omega)
  rw [← hg, ← hh2]
  clear hu' hh2 hg k1 HC
  unfold R1Res at hq
  cases hm : okC xs with
  | none =>
    rw [hm] at hq
    have he : e9 = .panicked gaveUp := hq
    subst he
    have HM : Hid (okC xs = none) := hm
    clear hm
    refine leaves_cons (f := 153) (args := #[.pointer (some ⟨g, 0, none⟩)]) (by simp) (by simp [go_sem]) ?_
    refine (catch_p ⟨g, 0, none⟩ 0 37 _ [] w1 (HLg1.out.cell (j := 0) rfl) (HLg1.out.fz (show 0 < 1 by omega))).mono ?_
    rintro e u' w2 ⟨rfl, rfl, hw2⟩
    have ks : Kp (fun b => b = g) w1 w2 := by rw [hw2]; show Kp _ _ _; exact (Kp.refl (fun b => b = g) w1).setCell (fun _ => rfl) _
    have hl2 : Lv w2 g [.int .i64 51] := by rw [hw2]; exact HLg1.out.set1' 0 _ (show 0 < 1 by omega)
    have hlh2 : Lv w2 h2 zeroC.toList := HLh1.out.keep ks (fun e => by have := HO.out; omega)
    refine ⟨_, res_cell_cell Tryz.results106 _ _ h2 g _ _ rfl (hlh2.load dsCmd szCmd rfl) rfl (load_errno g 51 w2 (hl2.cell (j := 0) rfl)), ?_, HK1.out.trans ks (fun b hb e => by have := HO.out; omega)⟩
    unfold AtRes
    rw [HM.out]
  | some c =>
    rw [hm] at hq
    obtain ⟨q, cap, he, hfl⟩ := hq
    subst he
    have HM : Hid (okC xs = some c) := hm
    have HF1 : Hid (Fl w1 (fun b => u.heap.size ≤ b ∧ b < w1.heap.size) q ((intsOf c.nodes).map encI)) := hfl
    obtain ⟨xa, hxa⟩ : ∃ x, x = cmdA (csOf c) (.slice q c.nodes.length cap) := ⟨_, rfl⟩
    have HXl : Hid (xa.toList.length = 12) := by rw [hxa]; rfl
    have HX1 : Hid (xa.toList.toArray.all (·.oneCell') = true) := by rw [hxa]; exact cmd_one _ rfl
    have HXa : Hid (xa = cmdA (csOf c) (.slice q c.nodes.length cap)) := hxa
    rw [← hxa]
    clear hm hfl hxa
    have cg : w1.cell? ⟨g, 0, none⟩ = some (.int .i64 0) := HLg1.out.cell (j := 0) rfl
    have fg : w1.frozen? ⟨g, 0, none⟩ = false := HLg1.out.fz (show 0 < 1 by omega)
    go_wp2_with (refine wpList_store_all rfl 31 _ _ rfl 12 h2 zeroC.toList xa.toList rfl (by rw [Array.toArray_toList]; rfl) HLh1.out szCmd rfl HXl.out HX1.out ?_; intro w2 hl2 k2; have cg2 : w2.cell? ⟨g, 0, none⟩ = some (.int .i64 0) := (HLg1.out.keep k2 (fun e => by have := HO.out; omega)).cell (j := 0) rfl; have fg2 : w2.frozen? ⟨g, 0, none⟩ = false := (HLg1.out.keep k2 (fun e => by have := HO.out; omega)).fz (show 0 < 1 by omega))
    have ks : Kp (fun b => b = g) w2 (w2.setCell ⟨g, 0, none⟩ (.int .i64 0)) := (by show Kp _ _ _; exact (Kp.refl (fun b => b = g) w2).setCell (fun _ => rfl) _)
    have hl3 : Lv (w2.setCell ⟨g, 0, none⟩ (.int .i64 0)) g [.int .i64 0] := (HLg1.out.keep k2 (fun e => by have := HO.out; omega)).set1' 0 _ (show 0 < 1 by omega)
    have hlh3 := hl2.keep ks (fun e => by have := HO.out; omega)
    refine leaves_cons (f := 153) (args := #[.pointer (some ⟨g, 0, none⟩)]) (by simp) (by simp [go_sem]) ?_
    refine (catch_i ⟨g, 0, none⟩ _).mono ?_
    rintro e u' w4 ⟨rfl, rfl, hw4⟩
    rw [hw4]
    refine ⟨_, res_cell_cell Tryz.results106 _ _ h2 g _ _ rfl (hlh3.load dsCmd szCmd HXl.out) rfl (load_errno g 0 _ (hl3.cell (j := 0) rfl)), ?_, (HK1.out.trans k2 (fun b hb e => by have := HO.out; omega)).trans ks (fun b hb e => by have := HO.out; omega)⟩
    unfold AtRes
    rw [HM.out]
    refine ⟨q, cap, by rw [Array.toArray_toList, HXa.out], ((HF1.out.keep k2 (fun b hb e => by have := HO.out; omega)).keep ks (fun b hb e => by have := HO.out; omega)).mono (fun b hb => ⟨by have := HO.out; omega, ?_⟩)⟩
    have h8 := k2.size
    have h9 := ks.size
    omega
end Go.Proofs.YtippipeebkkghaaGreatDoor
