/- Fetches and movers: On of the one shard. -/
import Derived.Test.YtmncocmeafcpfaaDoorYh
namespace Go.Proofs.YtmncocmeafcpfaaDoor
set_option linter.unusedVariables false
set_option linter.unusedSimpArgs false
open Go.RowKit Go.Deep

section
variable {w : World} {f q oq cq g : Nat}

set_option maxRecDepth 100000 in
set_option maxHeartbeats 3200000 in
theorem fon_ok (pb : Option Addr) (c : Nat) (xs : List Nat) (hf : Lv w f (fetA b95 (.slice (some ⟨q, oq, none⟩) 1 cq) (.slice (some ⟨g, 0, none⟩) 1 1) 0)) (hg : Lv w g [.slice none 0 0]) (hq : w.cell? ⟨q, oq, none⟩ = some (.int .i64 3)) (hfg : f ≠ g) (hx : Rb w pb 8 xs) : Calls Tryd.prog 60 #[.pointer (some ⟨f, 0, none⟩), .agg (msgF 13 3 9 0 true (.slice pb 8 c))] w fun e w' => ∃ sv, e = .returned (.bool true) ∧ Kp (fun b => b = f ∨ b = g) w w' ∧ Ow w' w.heap.size sv xs ∧ Lv w' f (fetA b95 (.slice (some ⟨q, oq, none⟩) 1 cq) (.slice (some ⟨g, 0, none⟩) 1 1) 1) ∧ Lv w' g [sv] := by
  have hl : Lv (w.alloc (.cells (msgF 13 3 9 0 true (.slice pb 8 c)) 45)) w.heap.size (msgF 13 3 9 0 true (.slice pb 8 c)).toList := Lv.new w _ _
  have k0 : Kp (fun _ => False) w (w.alloc (.cells (msgF 13 3 9 0 true (.slice pb 8 c)) 45)) := (Kp.refl _ _).alloc _
  have HB : Hid (f < w.heap.size ∧ g < w.heap.size ∧ q < w.heap.size) := ⟨hf.lt (by simp), hg.lt (by simp), World.block_lt_of_cell? _ _ hq⟩
  have HL0 : Hid (∀ z, Kp (fun _ => False) (w.alloc (.cells (msgF 13 3 9 0 true (.slice pb 8 c)) 45)) z → Lv z w.heap.size (msgF 13 3 9 0 true (.slice pb 8 c)).toList ∧ Lv z f (fetA b95 (.slice (some ⟨q, oq, none⟩) 1 cq) (.slice (some ⟨g, 0, none⟩) 1 1) 0) ∧ Lv z g [.slice none 0 0] ∧ z.cell? ⟨q, oq, none⟩ = some (.int .i64 3) ∧ Rb z pb 8 xs) := fun z k => ⟨hl.keep k id, (hf.keep k0 id).keep k id, (hg.keep k0 id).keep k id, k.cellv (k0.cellv hq id) id, (hx.keep0 k0).keep0 k⟩
  have HLe : Hid (∀ z, Kp (fun _ => False) (w.alloc (.cells (msgF 13 3 9 0 true (.slice pb 8 c)) 45)) z → Calls _ _ _ z _) := fun z k => flength_ok (.slice (some ⟨g, 0, none⟩) 1 1) 0 (HL0.out z k).2.1
  have x0 := hl.cell (j := 0) rfl
  have x9 := hl.cell (j := 9) rfl
  have x23 := hl.cell (j := 23) rfl
  have HS1 : Hid (∀ z, Kp (fun _ => False) (w.alloc (.cells (msgF 13 3 9 0 true (.slice pb 8 c)) 45)) z → z.cell? ⟨w.heap.size, 0, none⟩ = some (.int .i64 13) ∧ z.cell? ⟨w.heap.size, 9, none⟩ = some (.bool true) ∧ z.cell? ⟨w.heap.size, 23, none⟩ = some (.slice pb 8 c)) := fun z k => ⟨k.cellv x0 id, k.cellv x9 id, k.cellv x23 id⟩
  have kd : Kp (fun _ => False) (w.alloc (.cells (msgF 13 3 9 0 true (.slice pb 8 c)) 45)) (w.alloc (.cells (msgF 13 3 9 0 true (.slice pb 8 c)) 45)).drew := (Kp.refl _ _).drew
  clear hl hf hg hq hx
  go_enter Tryd.func60, Tryd.ntmps60
  go_wp2
  go_region_held3 (fun z => z.cell? ⟨w.heap.size, 0, none⟩ = some (.int .i64 13) ∧ z.cell? ⟨w.heap.size, 9, none⟩ = some (.bool true) ∧ z.cell? ⟨w.heap.size, 23, none⟩ = some (.slice pb 8 c))
    (first
      | exact HS1.out _ kd
      | exact HS1.out _ k2)
    (first | (go_at_call 55; refine (HLe.out _ kd).mono ?_; rintro e w2 ⟨rfl, kk⟩; have k2 := kd.trans kk (fun _ _ e => e)))
  have hl2 := HL0.out w2 k2
  have HK2 : Hid (Kp (fun _ => False) w w2) := k0.trans k2 (fun _ _ e => e)
  have HL2 : Hid (∀ z, Kp (fun _ => False) w2 z → Lv z w.heap.size (msgF 13 3 9 0 true (.slice pb 8 c)).toList ∧ Lv z f (fetA b95 (.slice (some ⟨q, oq, none⟩) 1 cq) (.slice (some ⟨g, 0, none⟩) 1 1) 0) ∧ Lv z g [.slice none 0 0] ∧ z.cell? ⟨q, oq, none⟩ = some (.int .i64 3) ∧ Rb z pb 8 xs) := fun z k => ⟨hl2.1.keep k id, hl2.2.1.keep k id, hl2.2.2.1.keep k id, k.cellv hl2.2.2.2.1 id, hl2.2.2.2.2.keep0 k⟩
  have HLi : Hid (∀ z, Kp (fun _ => False) w2 z → Calls _ _ _ z _) := fun z k => lies_ok q oq cq (.slice pb 8 c) z (HL2.out z k).2.2.2.1
  have HS3 : Hid (∀ z, Kp (fun _ => False) w2 z → (loadVar 45 ⟨w.heap.size, 0, none⟩).run Tryd.prog z = .ok (.agg (msgF 13 3 9 0 true (.slice pb 8 c))) z ∧ z.cell? ⟨w.heap.size, 6, none⟩ = some (.int .i64 0) ∧ z.cell? ⟨f, 0, none⟩ = some (.int .i64 9) ∧ z.cell? ⟨f, 5, none⟩ = some (.slice (some ⟨q, oq, none⟩) 1 cq) ∧ z.cell? ⟨f, 6, none⟩ = some (.slice (some ⟨g, 0, none⟩) 1 1) ∧ z.cell? ⟨g, 0, none⟩ = some (.slice none 0 0)) := fun z k => by
    have h := HL2.out z k
    exact ⟨h.1.load dsMsg szMsg rfl, h.1.cell (j := 6) rfl, h.2.1.cell (j := 0) rfl, h.2.1.cell (j := 5) rfl, h.2.1.cell (j := 6) rfl, h.2.2.1.cell (j := 0) rfl⟩
  have kd2 : Kp (fun _ => False) w2 w2.drew := (Kp.refl _ _).drew
  have hc3 : Calls _ _ _ w2.drew _ := (HLi.out _ kd2).mono (R' := fun e w9 => e = .returned (.bool true) ∧ ((loadVar 45 ⟨w.heap.size, 0, none⟩).run Tryd.prog w9 = .ok (.agg (msgF 13 3 9 0 true (.slice pb 8 c))) w9 ∧ w9.cell? ⟨w.heap.size, 6, none⟩ = some (.int .i64 0) ∧ w9.cell? ⟨f, 0, none⟩ = some (.int .i64 9) ∧ w9.cell? ⟨f, 5, none⟩ = some (.slice (some ⟨q, oq, none⟩) 1 cq) ∧ w9.cell? ⟨f, 6, none⟩ = some (.slice (some ⟨g, 0, none⟩) 1 1) ∧ w9.cell? ⟨g, 0, none⟩ = some (.slice none 0 0)) ∧ Kp (fun _ => False) w2 w9) (fun e w9 h => ⟨h.1, HS3.out _ (kd2.trans h.2 (fun _ _ e => e)), kd2.trans h.2 (fun _ _ e => e)⟩)
  clear hl2 HL0 HS1 HLe x0 x9 x23 kd k2 kk k0
  go_wp2
  refine fo3_region ⟨by kernel_rfl, by kernel_rfl, by kernel_rfl, by kernel_rfl, by kernel_rfl, by kernel_rfl, by kernel_rfl, by kernel_rfl, by kernel_rfl, by kernel_rfl, by kernel_rfl, by kernel_rfl, by kernel_rfl, by kernel_rfl, by kernel_rfl, by kernel_rfl, by kernel_rfl, by kernel_rfl, by kernel_rfl, by kernel_rfl, by kernel_rfl, by kernel_rfl, by kernel_rfl, by kernel_rfl, by kernel_rfl, by kernel_rfl, by kernel_rfl, by kernel_rfl, by kernel_rfl, by kernel_rfl, by kernel_rfl⟩ w.heap.size f g q oq cq (msgF 13 3 9 0 true (.slice pb 8 c)) (fun d _ _ _ _ h => by cases d <;> exact h) (by rfl) (by rfl) (by rfl) (HS3.out _ kd2) (fun w9 => Kp (fun _ => False) w2 w9) hc3 ?_
  intro w3 k3
  clear hc3 HLi HS3
  simp only [Act.put, List.setIfInBounds_toArray, List.set_cons_succ, List.set_cons_zero]
  go_wp2
  have hl3 := HL2.out w3 k3
  have HK3 : Hid (Kp (fun _ => False) w w3) := HK2.out.trans k3 (fun _ _ e => e)
  have HS5 : Hid (∀ z, Kp (fun b => b = g) w3 z → z.cell? ⟨f, 6, none⟩ = some (.slice (some ⟨g, 0, none⟩) 1 1) ∧ z.cell? ⟨w.heap.size, 6, none⟩ = some (.int .i64 0) ∧ z.cell? ⟨w.heap.size, 23, none⟩ = some (.slice pb 8 c)) := fun z k => ⟨k.cellv (hl3.2.1.cell (j := 6) rfl) hfg, k.cellv (hl3.1.cell (j := 6) rfl) (fun e => by have := HB.out.2.1; have e' : w.heap.size = g := e; omega), k.cellv (hl3.1.cell (j := 23) rfl) (fun e => by have := HB.out.2.1; have e' : w.heap.size = g := e; omega)⟩
  have kd3 : Kp (fun _ => False) w3 w3.drew := (Kp.refl _ _).drew
  have hx8 : xs.length = 8 := hl3.2.2.2.2.len
  have hc5 : Calls _ _ _ w3.drew _ := (clone_any pb 8 c xs w3.drew (hl3.2.2.2.2.keep0 kd3) (by show _ ≤ _; decide)).mono (R' := fun e w9 => ∃ ps cs, e = .returned (.slice ps 8 cs) ∧ (w9.cell? ⟨f, 6, none⟩ = some (.slice (some ⟨g, 0, none⟩) 1 1) ∧ w9.cell? ⟨w.heap.size, 6, none⟩ = some (.int .i64 0) ∧ w9.cell? ⟨w.heap.size, 23, none⟩ = some (.slice pb 8 c)) ∧ ((w9.setCell ⟨g, 0, none⟩ (.slice ps 8 cs)).cell? ⟨f, 6, none⟩ = some (.slice (some ⟨g, 0, none⟩) 1 1) ∧ (w9.setCell ⟨g, 0, none⟩ (.slice ps 8 cs)).cell? ⟨w.heap.size, 6, none⟩ = some (.int .i64 0) ∧ (w9.setCell ⟨g, 0, none⟩ (.slice ps 8 cs)).cell? ⟨w.heap.size, 23, none⟩ = some (.slice pb 8 c)) ∧ w9.cell? ⟨g, 0, none⟩ = some (.slice none 0 0) ∧ w9.frozen? ⟨g, 0, none⟩ = false ∧ Kp (fun _ => False) w3 w9 ∧ Ow w9 w.heap.size (.slice ps 8 cs) xs) (fun e w9 h => by
    obtain ⟨v, rfl, k9, o9⟩ := h
    obtain ⟨ps, cs, rfl, _⟩ := o9.rb (fun x hx => hl3.2.2.2.2.byte x hx)
    have kz := kd3.trans k9 (fun _ _ e => e)
    have kg := Kp.mono (S' := fun b => b = g) kz (fun _ _ e => e.elim)
    have lg := hl3.2.2.1.keep kz id
    rw [hx8]
    refine ⟨ps, cs, rfl, HS5.out _ kg, HS5.out _ (kg.setCell (fun _ => rfl) _), lg.cell (j := 0) rfl, lg.fz (by simp), kz, ?_⟩
    rw [hx8] at o9
    have hz := HK3.out.size
    have o8 := ownsRow_base (base' := w.heap.size) o9 (by have : w3.drew.heap.size = w3.heap.size := rfl; omega)
    exact o8)
  have HF : Hid (∀ (ps : Option Addr) (cs : Nat) (w9 : World), Kp (fun _ => False) w3 w9 → Ow w9 w.heap.size (.slice ps 8 cs) xs → Lv (w9.setCell ⟨g, 0, none⟩ (.slice ps 8 cs)) f (fetA b95 (.slice (some ⟨q, oq, none⟩) 1 cq) (.slice (some ⟨g, 0, none⟩) 1 1) 0) ∧ Lv (w9.setCell ⟨g, 0, none⟩ (.slice ps 8 cs)) g [.slice ps 8 cs] ∧ Kp (fun b => b = f ∨ b = g) w (w9.setCell ⟨g, 0, none⟩ (.slice ps 8 cs)) ∧ Ow (w9.setCell ⟨g, 0, none⟩ (.slice ps 8 cs)) w.heap.size (.slice ps 8 cs) xs) := fun ps cs w9 k o => by
    have ks : Kp (fun b => b = g) w9 (w9.setCell ⟨g, 0, none⟩ (.slice ps 8 cs)) := (Kp.refl (fun b => b = g) w9).setCell (fun _ => rfl) _
    refine ⟨(hl3.2.1.keep k id).keep ks hfg, (hl3.2.2.1.keep k id).set1 0 _ (by simp), ?_, ownsRow_keep o ks (fun b hb e => ?_)⟩
    · exact ((HK3.out.trans k (fun _ _ e => e)).mono (fun _ _ e => e.elim)).trans ks (fun b _ e => Or.inr e)
    · have h1 := (ownBlock_lt o hb).1
      have h2 := HB.out.2.1
      have e' : b = g := e
      omega
  clear hl3 HL2 HK2 k3 hx8 HK3
  refine fo5_region ⟨by kernel_rfl, by kernel_rfl, by kernel_rfl, by kernel_rfl, by kernel_rfl, by kernel_rfl, by kernel_rfl, by kernel_rfl, by kernel_rfl, by kernel_rfl, by kernel_rfl, by kernel_rfl, by kernel_rfl, by kernel_rfl, by kernel_rfl, by kernel_rfl, by kernel_rfl, by kernel_rfl⟩ w.heap.size f g pb c (fun d _ _ _ _ h => by cases d <;> exact h) (by rfl) (by rfl) (by rfl) (HS5.out _ (kd3.mono (fun _ _ e => e.elim))) (fun ps cs w9 => Kp (fun _ => False) w3 w9 ∧ Ow w9 w.heap.size (.slice ps 8 cs) xs) hc5 ?_
  rintro ps cs w9 ⟨k9, o9⟩
  have hf := HF.out ps cs w9 k9 o9
  obtain ⟨w4, hw4⟩ : ∃ x, x = w9.setCell ⟨g, 0, none⟩ (.slice ps 8 cs) := ⟨_, rfl⟩
  rw [← hw4] at hf ⊢
  have c7 := hf.1.cell (j := 7) rfl
  have f7 := hf.1.fz (j := 7) (by simp)
  have HE : Hid (Lv w4 f (fetA b95 (.slice (some ⟨q, oq, none⟩) 1 cq) (.slice (some ⟨g, 0, none⟩) 1 1) 0) ∧ Lv w4 g [.slice ps 8 cs] ∧ Kp (fun b => b = f ∨ b = g) w w4 ∧ Ow w4 w.heap.size (.slice ps 8 cs) xs) := hf
  clear hc5 HF HS5 hw4 k9 o9 kd3 hf
  simp only [Act.put, List.setIfInBounds_toArray, List.set_cons_succ, List.set_cons_zero]
  go_wp2
  go_ret
  have he := HE.out
  have ks : Kp (fun b => b = f) w4 (w4.setCell ⟨f, 7, none⟩ (.int .i64 1)) := (Kp.refl (fun b => b = f) w4).setCell (fun _ => rfl) _
  refine ⟨.slice ps 8 cs, rfl, he.2.2.1.trans ks (fun b _ e => Or.inl e), ownsRow_keep he.2.2.2 ks (fun b hb e => ?_), he.1.set1 7 _ (by simp), he.2.1.keep ks (fun e => hfg e.symm)⟩
  have h1 := (ownBlock_lt he.2.2.2 hb).1
  have h2 := HB.out.1
  have e' : b = f := e
  omega

set_option maxRecDepth 100000 in
set_option maxHeartbeats 800000 in
theorem came_ok (cv : Value) (k : Int) (h : Lv w f (fetA b95 (.slice (some ⟨q, oq, none⟩) 1 cq) cv k)) : Calls Tryd.prog 91 #[.pointer (some ⟨f, 0, none⟩)] w fun e w' => e = .returned cv ∧ w' = w := by
  have c6 := h.cell (j := 6) rfl
  clear h
  go_enter Tryd.func91, Tryd.ntmps91
  go_wp2
  go_ret
  exact ⟨rfl, rfl⟩

set_option maxRecDepth 100000 in
set_option maxHeartbeats 800000 in
theorem has_ok {m : Nat} {p bl ix nd old : Int} {fp : Value} {fe : Int} (p0 ps : Option Addr) (n0 c0 n cs : Nat) (h : Lv w m (movA p bl ix nd old fp (.slice p0 n0 c0) fe)) (hfp : ∃ b, fp = .pointer b) : Calls Tryd.prog 56 #[.pointer (some ⟨m, 0, none⟩), .slice ps n cs] w fun e w' => e = .returned (.tuple #[]) ∧ Kp (fun b => b = m) w w' ∧ Lv w' m (movA 2 bl ix nd old (.pointer none) (.slice ps n cs) fe) := by
  obtain ⟨bp, rfl⟩ := hfp
  have h1 : Lv (w.setCell ⟨m, 0, none⟩ (.int .i64 2)) m (movA 2 bl ix nd old (.pointer bp) (.slice p0 n0 c0) fe) := h.set1 0 _ (by simp)
  have h2 : Lv ((w.setCell ⟨m, 0, none⟩ (.int .i64 2)).setCell ⟨m, 6, none⟩ (.slice ps n cs)) m (movA 2 bl ix nd old (.pointer bp) (.slice ps n cs) fe) := h1.set1 6 _ (by simp)
  have HF : Hid (Lv (((w.setCell ⟨m, 0, none⟩ (.int .i64 2)).setCell ⟨m, 6, none⟩ (.slice ps n cs)).setCell ⟨m, 5, none⟩ (.pointer none)) m (movA 2 bl ix nd old (.pointer none) (.slice ps n cs) fe)) := h2.set1 5 _ (by simp)
  have c0 := h.cell (j := 0) rfl
  have f0 := h.fz (j := 0) (by simp)
  have c6 := h1.cell (j := 6) rfl
  have f6 := h1.fz (j := 6) (by simp)
  have c5 := h2.cell (j := 5) rfl
  have f5 := h2.fz (j := 5) (by simp)
  clear h h1 h2
  go_enter Tryd.func56, Tryd.ntmps56
  go_wp2
  refine bodyPost_end (results_none rfl _ _ _) rfl ?_
  exact ⟨rfl, (((Kp.refl (fun b => b = m) _).setCell (fun _ => rfl) _).setCell (fun _ => rfl) _).setCell (fun _ => rfl) _, HF.out⟩

set_option maxRecDepth 100000 in
set_option maxHeartbeats 3200000 in
theorem fetched_ok {m base : Nat} (pb : Option Addr) (c : Nat) (xs : List Nat) (hM : Mn w base m f q oq cq g) (hx : Rb w pb 8 xs) : Calls Tryd.prog 50 #[.pointer (some ⟨m, 0, none⟩), .agg (msgF 13 3 9 0 true (.slice pb 8 c))] w fun e w' => ∃ ps cs, e = .returned (.bool true) ∧ Kp (fun b => b = m ∨ b = f ∨ b = g) w w' ∧ Ow w' w.heap.size (.slice ps 8 cs) xs ∧ Lv w' m (movA 2 9 0 0 3 (.pointer none) (.slice ps 8 cs) 0) := by
  have hl : Lv (w.alloc (.cells (msgF 13 3 9 0 true (.slice pb 8 c)) 45)) w.heap.size (msgF 13 3 9 0 true (.slice pb 8 c)).toList := Lv.new w _ _
  have k0 : Kp (fun _ => False) w (w.alloc (.cells (msgF 13 3 9 0 true (.slice pb 8 c)) 45)) := (Kp.refl _ _).alloc _
  obtain ⟨w0, hw0⟩ : ∃ x, x = w.alloc (.cells (msgF 13 3 9 0 true (.slice pb 8 c)) 45) := ⟨_, rfl⟩
  have hz0 : w0.heap.size = w.heap.size + 1 := by rw [hw0]; simp
  rw [← hw0] at hl k0
  have hap := hM.apart
  have lm := hM.lm.keep k0 id
  have HB : Hid (m < w.heap.size ∧ f < w.heap.size ∧ g < w.heap.size) := ⟨hM.lm.lt (by simp), hM.lf.lt (by simp), hM.lg.lt (by simp)⟩
  have kd : Kp (fun _ => False) w0 w0.drew := (Kp.refl _ _).drew
  have hS0 : (loadVar 45 ⟨w.heap.size, 0, none⟩).run Tryd.prog w0.drew = .ok (.agg (msgF 13 3 9 0 true (.slice pb 8 c))) w0.drew ∧ w0.drew.cell? ⟨m, 5, none⟩ = some (.pointer (some ⟨f, 0, none⟩)) := ⟨(hl.keep kd id).load dsMsg szMsg rfl, (lm.keep kd id).cell (j := 5) rfl⟩
  have hc1 : Calls _ _ _ w0.drew _ := (fon_ok pb c xs ((hM.lf.keep k0 id).keep kd id) ((hM.lg.keep k0 id).keep kd id) (kd.cellv (k0.cellv hM.lq id) id) hap.2.2.2.1 ((hx.keep0 k0).keep0 kd)).mono (R' := fun e w9 => e = .returned (.bool true) ∧ ((loadVar 45 ⟨w.heap.size, 0, none⟩).run Tryd.prog w9 = .ok (.agg (msgF 13 3 9 0 true (.slice pb 8 c))) w9 ∧ w9.cell? ⟨m, 5, none⟩ = some (.pointer (some ⟨f, 0, none⟩))) ∧ ∃ ps cs, Kp (fun b => b = f ∨ b = g) w0 w9 ∧ Ow w9 w0.heap.size (.slice ps 8 cs) xs ∧ Lv w9 f (fetA b95 (.slice (some ⟨q, oq, none⟩) 1 cq) (.slice (some ⟨g, 0, none⟩) 1 1) 1) ∧ Lv w9 g [.slice ps 8 cs]) (fun e w9 h => by
    obtain ⟨sv, rfl, k9, o9, l9, g9⟩ := h
    have hx8 : xs.length = 8 := hx.len
    obtain ⟨ps, cs, rfl, _⟩ := o9.rb (fun x hh => hx.byte x hh)
    rw [hx8] at o9 g9
    have kz : Kp (fun b => b = f ∨ b = g) w0 w9 := (kd.mono (fun _ _ e => e.elim)).trans k9 (fun _ _ e => e)
    have hb := HB.out
    have hbx := hl.keep kz (fun e => by rcases e with e | e <;> omega)
    have hmm := lm.keep kz (fun e => by rcases e with e | e; exact hap.1 e; exact hap.2.1 e)
    exact ⟨rfl, ⟨hbx.load dsMsg szMsg rfl, hmm.cell (j := 5) rfl⟩, ps, cs, kz, o9, l9, g9⟩)
  have HX : Hid (Lv w0 w.heap.size (msgF 13 3 9 0 true (.slice pb 8 c)).toList ∧ Lv w0 m (movA 1 9 0 0 3 (.pointer (some ⟨f, 0, none⟩)) (.slice none 0 0) 0) ∧ m ≠ f ∧ m ≠ g ∧ Kp (fun _ => False) w w0 ∧ w0.heap.size = w.heap.size + 1) := ⟨hl, lm, hap.1, hap.2.1, k0, hz0⟩
  clear hl lm hap hM hx k0 kd hz0
  go_enter Tryd.func50, Tryd.ntmps50
  go_wp2
  rw [show w.alloc (.cells (msgF 13 3 9 0 true (.slice pb 8 c)) 45) = w0 from hw0.symm]
  clear hw0
  refine fd1_region ⟨by kernel_rfl, by kernel_rfl, by kernel_rfl, by kernel_rfl, by kernel_rfl, by kernel_rfl, by kernel_rfl, by kernel_rfl, by kernel_rfl, by kernel_rfl, by kernel_rfl, by kernel_rfl, by kernel_rfl⟩ w.heap.size m f (msgF 13 3 9 0 true (.slice pb 8 c)) (fun d _ _ _ _ h => by cases d <;> exact h) (by rfl) (by rfl) (by rfl) hS0 (fun w9 => ∃ ps cs, Kp (fun b => b = f ∨ b = g) w0 w9 ∧ Ow w9 w0.heap.size (.slice ps 8 cs) xs ∧ Lv w9 f (fetA b95 (.slice (some ⟨q, oq, none⟩) 1 cq) (.slice (some ⟨g, 0, none⟩) 1 1) 1) ∧ Lv w9 g [.slice ps 8 cs]) hc1 ?_
  rintro w9 ⟨ps, cs, k9, o9, l9, g9⟩
  have hb := HB.out
  have hxx := HX.out
  have lx9 := hxx.1.keep k9 (fun e => by rcases e with e | e <;> omega)
  have lm9 := hxx.2.1.keep k9 (fun e => by rcases e with e | e; exact hxx.2.2.1 e; exact hxx.2.2.2.1 e)
  have x6 := lx9.cell (j := 6) rfl
  have m2 := lm9.cell (j := 2) rfl
  have m5 := lm9.cell (j := 5) rfl
  have g0 := g9.cell (j := 0) rfl
  have HCa : Hid (Calls _ _ _ w9 _) := came_ok (.slice (some ⟨g, 0, none⟩) 1 1) 1 l9
  have HHa : Hid (∀ z, Kp (fun _ => False) w9 z → Calls _ _ _ z _) := fun z k => has_ok none ps 0 0 8 cs (lm9.keep k id) ⟨_, rfl⟩
  have HO : Hid (Kp (fun b => b = f ∨ b = g) w0 w9 ∧ Ow w9 w0.heap.size (.slice ps 8 cs) xs) := ⟨k9, o9⟩
  clear hS0 hc1 hb hxx lx9 lm9 k9 o9 l9 g9
  simp only [Act.put, List.setIfInBounds_toArray, List.set_cons_succ, List.set_cons_zero]
  go_wp2_with (go_at_call 91; refine HCa.out.mono ?_; rintro e w10 ⟨rfl, hw10⟩; subst hw10)
  go_quiet (fail)
  have kq : Kp (fun _ => False) w10 (w10.drewN nq) := (Kp.refl _ _).drewN _
  have x6q := kq.cellv x6 id
  have g0q := kq.cellv g0 id
  go_wp2_with (go_at_call 56; refine (HHa.out _ kq).mono ?_; rintro e w11 ⟨rfl, k11, l11⟩)
  go_ret
  have hb := HB.out
  have hxx := HX.out
  have ho := HO.out
  have kk : Kp (fun b => b = m) w10 w11 := (kq.mono (fun _ _ e => e.elim)).trans k11 (fun _ _ e => e)
  refine ⟨ps, cs, rfl, ?_, ?_, l11⟩
  · exact ((hxx.2.2.2.2.1.mono (fun _ _ e => e.elim)).trans (Kp.mono (S' := fun b => b = m ∨ b = f ∨ b = g) ho.1 (fun _ _ e => Or.inr e)) (fun _ _ e => e)).trans kk (fun _ _ e => Or.inl e)
  · have o2 := ownsRow_keep ho.2 kk (fun b hb2 e => by
      have h1 := (ownBlock_lt ho.2 hb2).1
      have e' : b = m := e
      omega)
    exact ownsRow_base o2 (by omega)
end
end Go.Proofs.YtmncocmeafcpfaaDoor
