/- The same messages are found the same. -/
import Derived.Test.YtoepemgflbmlcaaDoorQy
namespace Go.Proofs.YtoepemgflbmlcaaDoor
set_option linter.unusedVariables false
open Go.RowKit Go.Deep Go.Maps

set_option maxRecDepth 100000 in
set_option maxHeartbeats 1600000 in
theorem same_msg (Z1 Z2 : Nat → Prop) (μ : Ms) (v1 v2 : Value) (w : World) (h1 : Mr w Z1 μ v1) (h2 : Mr w Z2 μ v2) :
    Calls Tryd.prog 18 #[v1, v2] w fun e w' => e = .returned (.bool true) ∧ Kp (fun _ => False) w w' := by
  obtain ⟨p, cp, pv, cv, l, pb, cb, rfl, a1, a2, a3, a4, a5, a6, a7, a8, a9⟩ := h1
  obtain ⟨q, cq, qv, dv, l', qb, db, rfl, b1, b2, b3, b4, b5, b6, b7, b8, b9⟩ := h2
  obtain ⟨s, nodes, votes, bytes⟩ := μ
  simp only at a1 a2 a3 a4 a5 a6 a7 a8 a9 b1 b2 b3 b4 b5 b6 b7 b8 b9
  have HC : Hid (∀ u, Kp (fun _ => False) w u → Calls _ _ _ u _) := fun u k => same_cmd s.c Z1 Z2 p q cp cq nodes u (a1.keep k (fun _ _ => id)) (b1.keep k (fun _ _ => id)) a2
  have HV : Hid (∀ u, Kp (fun _ => False) w u → Calls _ _ _ u _) := fun u k => same_votes Z1 Z2 pv qv cv dv l l' u (a3.trans b3.symm) (a4.keep k (fun _ _ => id)) (b4.keep k (fun _ _ => id)) (a5.keep k (fun _ _ => id)) (b5.keep k (fun _ _ => id)) a6
  have HB : Hid (∀ u, Kp (fun _ => False) w u → Calls _ _ _ u _) := fun u k => bytes_same pb qb bytes.length bytes.length cb db bytes u (fl_rb (a7.keep k (fun _ _ => id)) a8) (fl_rb (b7.keep k (fun _ _ => id)) b8)
  show Calls Tryd.prog 18 #[.agg (msgA s (.slice p nodes.length cp) (.slice pv l.length cv) (.slice pb bytes.length cb)), .agg (msgA s (.slice q nodes.length cq) (.slice qv l'.length dv) (.slice qb bytes.length db))] w _
  obtain ⟨n1, hn1⟩ : ∃ x, x = nodes.length := ⟨_, rfl⟩
  obtain ⟨n2, hn2⟩ : ∃ x, x = l.length := ⟨_, rfl⟩
  obtain ⟨n4, hn4⟩ : ∃ x, x = l'.length := ⟨_, rfl⟩
  obtain ⟨n3, hn3⟩ : ∃ x, x = bytes.length := ⟨_, rfl⟩
  rw [← hn1] at HC
  rw [← hn2, ← hn4] at HV
  rw [← hn3] at HB
  rw [← hn1, ← hn2, ← hn3, ← hn4]
  clear a1 a2 a3 a4 a5 a6 a7 a8 a9 b1 b2 b3 b4 b5 b6 b7 b8 b9 hn1 hn2 hn3 hn4
  have HL1 : Hid (Lv ((w.alloc (.cells (msgA s (.slice p n1 cp) (.slice pv n2 cv) (.slice pb n3 cb)) 40)).alloc (.cells (msgA s (.slice q n1 cq) (.slice qv n4 dv) (.slice qb n3 db)) 40)) w.heap.size (msgA s (.slice p n1 cp) (.slice pv n2 cv) (.slice pb n3 cb)).toList) := (Lv.new w _ _).keep ((Kp.refl (fun _ => False) _).alloc _) id
  have HL2 : Hid (Lv ((w.alloc (.cells (msgA s (.slice p n1 cp) (.slice pv n2 cv) (.slice pb n3 cb)) 40)).alloc (.cells (msgA s (.slice q n1 cq) (.slice qv n4 dv) (.slice qb n3 db)) 40)) (w.heap.size + 1) (msgA s (.slice q n1 cq) (.slice qv n4 dv) (.slice qb n3 db)).toList) := by
    have z1 : (w.alloc (.cells (msgA s (.slice p n1 cp) (.slice pv n2 cv) (.slice pb n3 cb)) 40)).heap.size = w.heap.size + 1 := by simp
    rw [← z1]; exact Lv.new _ _ _
  go_enter Tryd.func18, Tryd.ntmps18
  go_wp2_with (first
    | (go_at_call 12; refine (HC.out _ (((Kp.refl _ _).alloc _).alloc _)).mono ?_; rintro e u1 ⟨rfl, k1⟩; have kw1 := (((Kp.refl (fun _ => False) w).alloc _).alloc _).trans k1 (fun _ _ e => e); have HLa : Hid (Lv u1 w.heap.size _) := HL1.out.keep k1 id; have HLb : Hid (Lv u1 (w.heap.size + 1) _) := HL2.out.keep k1 id; have ca : u1.cell? ⟨w.heap.size, 22, none⟩ = some (.slice pv n2 cv) := HLa.out.cell (j := 22) rfl; have cb' : u1.cell? ⟨w.heap.size + 1, 22, none⟩ = some (.slice qv n4 dv) := HLb.out.cell (j := 22) rfl; clear HL1 HL2 k1)
    | (go_at_call 47; refine (HV.out _ kw1).mono ?_; rintro e u2 ⟨rfl, k2⟩; have kw2 := kw1.trans k2 (fun _ _ e => e); have cc : u2.cell? ⟨w.heap.size, 23, none⟩ = some (.slice pb n3 cb) := (HLa.out.keep k2 id).cell (j := 23) rfl; have cd : u2.cell? ⟨w.heap.size + 1, 23, none⟩ = some (.slice qb n3 db) := (HLb.out.keep k2 id).cell (j := 23) rfl; clear HLa HLb ca cb' k2)
    | (go_at_call 11; refine (HB.out _ kw2).mono ?_; rintro e u3 ⟨rfl, rfl⟩))
  go_ret
  exact ⟨rfl, kw2⟩
end Go.Proofs.YtoepemgflbmlcaaDoor
