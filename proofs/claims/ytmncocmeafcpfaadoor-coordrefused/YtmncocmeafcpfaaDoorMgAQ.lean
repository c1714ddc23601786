/- Texts of this proof, joined: Yj, Yk, Yf, Yl. -/
import Derived.Test.YtmncocmeafcpfaaDoorMgAP
import Derived.Test.YtmncocmeafcpfaaDoorMgAK
import Derived.Test.YtmncocmeafcpfaaDoorMgAO
import Derived.Deep.RegionHeld3
/- Fetches and movers: On of the one shard. -/
namespace Go.Proofs.YtmncocmeafcpfaaDoor
set_option linter.unusedVariables false
set_option linter.unusedSimpArgs false
open Go.RowKit Go.Deep

section
variable {w : World} {f q oq cq g : Nat}

set_option maxRecDepth 100000 in
set_option maxHeartbeats 3200000 in
theorem fon_ok (pb : Option Addr) (c : Nat) (xs : List Nat) (hf : Lv w f (fetA b95 (.slice (some ⟨q, oq, none⟩) 1 cq) (.slice (some ⟨g, 0, none⟩) 1 1) 0)) (hg : Lv w g [.slice none 0 0]) (hq : w.cell? ⟨q, oq, none⟩ = some (.int .i64 3)) (hfg : f ≠ g) (hx : Rb w pb 8 xs) : Calls Tryd.prog 60 #[.pointer (some ⟨f, 0, none⟩), .agg (msgF 13 3 9 0 true (.slice pb 8 c))] w fun e w' => ∃ sv, e = .returned (.bool true) ∧ Kp (fun b => b = f ∨ b = g) w w' ∧ Ow w' w.heap.size sv xs ∧ Lv w' f (fetA b95 (.slice (some ⟨q, oq, none⟩) 1 cq) (.slice (some ⟨g, 0, none⟩) 1 1) 1) ∧ Lv w' g [sv] := by
  have hl : Lv (w.alloc (.cells (msgF 13 3 9 0 true (.slice pb 8 c)) 45)) w.heap.size (msgF 13 3 9 0 true (.slice pb 8 c)).toList := Lv.new w _ _
  have k0 : Kp (fun _ => False) w (w.alloc (.cells (msgF 13 3 9 0 true (.slice pb 8 c)) 45)) := (Kp.refl _ _).alloc _
  have HB : Hid (f < w.heap.size ∧ g < w.heap.size ∧ q < w.heap.size) := ⟨hf.lt (by simp), hg.lt (by simp), World.block_lt_of_cell? _ _ hq⟩
  have HL0 : Hid (∀ z, Kp (fun _ => False) (w.alloc (.cells (msgF 13 3 9 0 true (.slice pb 8 c)) 45)) z → Lv z w.heap.size (msgF 13 3 9 0 true (.slice pb 8 c)).toList ∧ Lv z f (fetA b95 (.slice (some ⟨q, oq, none⟩) 1 cq) (.slice (some ⟨g, 0, none⟩) 1 1) 0) ∧ Lv z g [.slice none 0 0] ∧ z.cell? ⟨q, oq, none⟩ = some (.int .i64 3) ∧ Rb z pb 8 xs) := fun z k => ⟨hl.keep k id, (hf.keep k0 id).keep k id, (hg.keep k0 id).keep k id, k.cellv (k0.cellv hq id) id, (hx.keep0 k0).keep0 k⟩
  have HLe : Hid (∀ z, Kp (fun _ => False) (w.alloc (.cells (msgF 13 3 9 0 true (.slice pb 8 c)) 45)) z → Calls _ _ _ z _) := fun z k => flength_ok (.slice (some ⟨g, 0, none⟩) 1 1) 0 (HL0.out z k).2.1
  have x0 := hl.cell (j := 0) rfl
  have x9 := hl.cell (j := 9) rfl
  have x23 := hl.cell (j := 23) rfl
  have HS1 : Hid (∀ z, Kp (fun _ => False) (w.alloc (.cells (msgF 13 3 9 0 true (.slice pb 8 c)) 45)) z → z.cell? ⟨w.heap.size, 0, none⟩ = some (.int .i64 13) ∧ z.cell? ⟨w.heap.size, 9, none⟩ = some (.bool true) ∧ z.cell? ⟨w.heap.size, 23, none⟩ = some (.slice pb 8 c)) := fun z k => ⟨k.cellv x0 id, k.cellv x9 id, k.cellv x23 id⟩
  have kd : Kp (fun _ => False) (w.alloc (.cells (msgF 13 3 9 0 true (.slice pb 8 c)) 45)) (w.alloc (.cells (msgF 13 3 9 0 true (.slice pb 8 c)) 45)).drew := (Kp.refl _ _).drew
  clear hl hf hg hq hx
  go_enter Tryd.func60, Tryd.ntmps60
  go_wp2
  go_region_held3 (fun z => z.cell? ⟨w.heap.size, 0, none⟩ = some (.int .i64 13) ∧ z.cell? ⟨w.heap.size, 9, none⟩ = some (.bool true) ∧ z.cell? ⟨w.heap.size, 23, none⟩ = some (.slice pb 8 c))
    (first
      | exact HS1.out _ kd
      | exact HS1.out _ k2)
    (first | (go_at_call 55; refine (HLe.out _ kd).mono ?_; rintro e w2 ⟨rfl, kk⟩; have k2 := kd.trans kk (fun _ _ e => e)))
  have hl2 := HL0.out w2 k2
  have HK2 : Hid (Kp (fun _ => False) w w2) := k0.trans k2 (fun _ _ e => e)
  have HL2 : Hid (∀ z, Kp (fun _ => False) w2 z → Lv z w.heap.size (msgF 13 3 9 0 true (.slice pb 8 c)).toList ∧ Lv z f (fetA b95 (.slice (some ⟨q, oq, none⟩) 1 cq) (.slice (some ⟨g, 0, none⟩) 1 1) 0) ∧ Lv z g [.slice none 0 0] ∧ z.cell? ⟨q, oq, none⟩ = some (.int .i64 3) ∧ Rb z pb 8 xs) := fun z k => ⟨hl2.1.keep k id, hl2.2.1.keep k id, hl2.2.2.1.keep k id, k.cellv hl2.2.2.2.1 id, hl2.2.2.2.2.keep0 k⟩
  have HLi : Hid (∀ z, Kp (fun _ => False) w2 z → Calls _ _ _ z _) := fun z k => lies_ok q oq cq (.slice pb 8 c) z (HL2.out z k).2.2.2.1
  have HS3 : Hid (∀ z, Kp (fun _ => False) w2 z → (loadVar 45 ⟨w.heap.size, 0, none⟩).run Tryd.prog z = .ok (.agg (msgF 13 3 9 0 true (.slice pb 8 c))) z ∧ z.cell? ⟨w.heap.size, 6, none⟩ = some (.int .i64 0) ∧ z.cell? ⟨f, 0, none⟩ = some (.int .i64 9) ∧ z.cell? ⟨f, 5, none⟩ = some (.slice (some ⟨q, oq, none⟩) 1 cq) ∧ z.cell? ⟨f, 6, none⟩ = some (.slice (some ⟨g, 0, none⟩) 1 1) ∧ z.cell? ⟨g, 0, none⟩ = some (.slice none 0 0)) := fun z k => by
    have h := HL2.out z k
    exact ⟨h.1.load dsMsg szMsg rfl, h.1.cell (j := 6) rfl, h.2.1.cell (j := 0) rfl, h.2.1.cell (j := 5) rfl, h.2.1.cell (j := 6) rfl, h.2.2.1.cell (j := 0) rfl⟩
  have kd2 : Kp (fun _ => False) w2 w2.drew := (Kp.refl _ _).drew
  have hc3 : Calls _ _ _ w2.drew _ := (HLi.out _ kd2).mono (R' := fun e w9 => e = .returned (.bool true) ∧ ((loadVar 45 ⟨w.heap.size, 0, none⟩).run Tryd.prog w9 = .ok (.agg (msgF 13 3 9 0 true (.slice pb 8 c))) w9 ∧ w9.cell? ⟨w.heap.size, 6, none⟩ = some (.int .i64 0) ∧ w9.cell? ⟨f, 0, none⟩ = some (.int .i64 9) ∧ w9.cell? ⟨f, 5, none⟩ = some (.slice (some ⟨q, oq, none⟩) 1 cq) ∧ w9.cell? ⟨f, 6, none⟩ = some (.slice (some ⟨g, 0, none⟩) 1 1) ∧ w9.cell? ⟨g, 0, none⟩ = some (.slice none 0 0)) ∧ Kp (fun _ => False) w2 w9) (fun e w9 h => ⟨h.1, HS3.out _ (kd2.trans h.2 (fun _ _ e => e)), kd2.trans h.2 (fun _ _ e => e)⟩)
  clear hl2 HL0 HS1 HLe x0 x9 x23 kd k2 kk k0
  go_wp2
  refine fo3_region ⟨by kernel_rfl, by kernel_rfl, by kernel_rfl, by kernel_rfl, by kernel_rfl, by kernel_rfl, by kernel_rfl, by kernel_rfl, by kernel_rfl, by kernel_rfl, by kernel_rfl, by kernel_rfl, by kernel_rfl, by kernel_rfl, by kernel_rfl, by kernel_rfl, by kernel_rfl, by kernel_rfl, by kernel_rfl, by kernel_rfl, by kernel_rfl, by kernel_rfl, by kernel_rfl, by kernel_rfl, by kernel_rfl, by kernel_rfl, by kernel_rfl, by kernel_rfl, by kernel_rfl, by kernel_rfl, by kernel_rfl⟩ w.heap.size f g q oq cq (msgF 13 3 9 0 true (.slice pb 8 c)) (fun d _ _ _ _ h => by cases d <;> exact h) (by rfl) (by rfl) (by rfl) (HS3.out _ kd2) (fun w9 => Kp (fun _ => False) w2 w9) hc3 ?_
  intro w3 k3
  clear hc3 HLi HS3
  simp only [Act.put, List.setIfInBounds_toArray, List.set_cons_succ, List.set_cons_zero]
  go_wp2
  have hl3 := HL2.out w3 k3
  have HK3 : Hid (Kp (fun _ => False) w w3) := HK2.out.trans k3 (fun _ _ e => e)
  have HS5 : Hid (∀ z, Kp (fun b => b = g) w3 z → z.cell? ⟨f, 6, none⟩ = some (.slice (some ⟨g, 0, none⟩) 1 1) ∧ z.cell? ⟨w.heap.size, 6, none⟩ = some (.int .i64 0) ∧ z.cell? ⟨w.heap.size, 23, none⟩ = some (.slice pb 8 c)) := fun z k => ⟨k.cellv (hl3.2.1.cell (j := 6) rfl) hfg, k.cellv (hl3.1.cell (j := 6) rfl) (fun e => by have := HB.out.2.1; have e' : w.heap.size = g := e; omega), k.cellv (hl3.1.cell (j := 23) rfl) (fun e => by have := HB.out.2.1; have e' : w.heap.size = g := e; omega)⟩
  have kd3 : Kp (fun _ => False) w3 w3.drew := (Kp.refl _ _).drew
  have hx8 : xs.length = 8 := hl3.2.2.2.2.len
  have hc5 : Calls _ _ _ w3.drew _ := (clone_any pb 8 c xs w3.drew (hl3.2.2.2.2.keep0 kd3) (by show _ ≤ _; decide)).mono (R' := fun e w9 => ∃ ps cs, e = .returned (.slice ps 8 cs) ∧ (w9.cell? ⟨f, 6, none⟩ = some (.slice (some ⟨g, 0, none⟩) 1 1) ∧ w9.cell? ⟨w.heap.size, 6, none⟩ = some (.int .i64 0) ∧ w9.cell? ⟨w.heap.size, 23, none⟩ = some (.slice pb 8 c)) ∧ ((w9.setCell ⟨g, 0, none⟩ (.slice ps 8 cs)).cell? ⟨f, 6, none⟩ = some (.slice (some ⟨g, 0, none⟩) 1 1) ∧ (w9.setCell ⟨g, 0, none⟩ (.slice ps 8 cs)).cell? ⟨w.heap.size, 6, none⟩ = some (.int .i64 0) ∧ (w9.setCell ⟨g, 0, none⟩ (.slice ps 8 cs)).cell? ⟨w.heap.size, 23, none⟩ = some (.slice pb 8 c)) ∧ w9.cell? ⟨g, 0, none⟩ = some (.slice none 0 0) ∧ w9.frozen? ⟨g, 0, none⟩ = false ∧ Kp (fun _ => False) w3 w9 ∧ Ow w9 w.heap.size (.slice ps 8 cs) xs) (fun e w9 h => by
    obtain ⟨v, rfl, k9, o9⟩ := h
    obtain ⟨ps, cs, rfl, _⟩ := o9.rb (fun x hx => hl3.2.2.2.2.byte x hx)
    have kz := kd3.trans k9 (fun _ _ e => e)
    have kg := Kp.mono (S' := fun b => b = g) kz (fun _ _ e => e.elim)
    have lg := hl3.2.2.1.keep kz id
    rw [hx8]
    refine ⟨ps, cs, rfl, HS5.out _ kg, HS5.out _ (kg.setCell (fun _ => rfl) _), lg.cell (j := 0) rfl, lg.fz (by simp), kz, ?_⟩
    rw [hx8] at o9
    have hz := HK3.out.size
    have o8 := ownsRow_base (base' := w.heap.size) o9 (by have : w3.drew.heap.size = w3.heap.size := rfl; omega)
    exact o8)
  have HF : Hid (∀ (ps : Option Addr) (cs : Nat) (w9 : World), Kp (fun _ => False) w3 w9 → Ow w9 w.heap.size (.slice ps 8 cs) xs → Lv (w9.setCell ⟨g, 0, none⟩ (.slice ps 8 cs)) f (fetA b95 (.slice (some ⟨q, oq, none⟩) 1 cq) (.slice (some ⟨g, 0, none⟩) 1 1) 0) ∧ Lv (w9.setCell ⟨g, 0, none⟩ (.slice ps 8 cs)) g [.slice ps 8 cs] ∧ Kp (fun b => b = f ∨ b = g) w (w9.setCell ⟨g, 0, none⟩ (.slice ps 8 cs)) ∧ Ow (w9.setCell ⟨g, 0, none⟩ (.slice ps 8 cs)) w.heap.size (.slice ps 8 cs) xs) := fun ps cs w9 k o => by
    have ks : Kp (fun b => b = g) w9 (w9.setCell ⟨g, 0, none⟩ (.slice ps 8 cs)) := (Kp.refl (fun b => b = g) w9).setCell (fun _ => rfl) _
    refine ⟨(hl3.2.1.keep k id).keep ks hfg, (hl3.2.2.1.keep k id).set1 0 _ (by simp), ?_, ownsRow_keep o ks (fun b hb e => ?_)⟩
    · exact ((HK3.out.trans k (fun _ _ e => e)).mono (fun _ _ e => e.elim)).trans ks (fun b _ e => Or.inr e)
    · have h1 := (ownBlock_lt o hb).1
      have h2 := HB.out.2.1
      have e' : b = g := e
      omega
  clear hl3 HL2 HK2 k3 hx8 HK3
  refine fo5_region ⟨by kernel_rfl, by kernel_rfl, by kernel_rfl, by kernel_rfl, by kernel_rfl, by kernel_rfl, by kernel_rfl, by kernel_rfl, by kernel_rfl, by kernel_rfl, by kernel_rfl, by kernel_rfl, by kernel_rfl, by kernel_rfl, by kernel_rfl, by kernel_rfl, by kernel_rfl, by kernel_rfl⟩ w.heap.size f g pb c (fun d _ _ _ _ h => by cases d <;> exact h) (by rfl) (by rfl) (by rfl) (HS5.out _ (kd3.mono (fun _ _ e => e.elim))) (fun ps cs w9 => Kp (fun _ => False) w3 w9 ∧ Ow w9 w.heap.size (.slice ps 8 cs) xs) hc5 ?_
  rintro ps cs w9 ⟨k9, o9⟩
  have hf := HF.out ps cs w9 k9 o9
  obtain ⟨w4, hw4⟩ : ∃ x, x = w9.setCell ⟨g, 0, none⟩ (.slice ps 8 cs) := ⟨_, rfl⟩
  rw [← hw4] at hf ⊢
  have c7 := hf.1.cell (j := 7) rfl
  have f7 := hf.1.fz (j := 7) (by simp)
  have HE : Hid (Lv w4 f (fetA b95 (.slice (some ⟨q, oq, none⟩) 1 cq) (.slice (some ⟨g, 0, none⟩) 1 1) 0) ∧ Lv w4 g [.slice ps 8 cs] ∧ Kp (fun b => b = f ∨ b = g) w w4 ∧ Ow w4 w.heap.size (.slice ps 8 cs) xs) := hf
  clear hc5 HF HS5 hw4 k9 o9 kd3 hf
  simp only [Act.put, List.setIfInBounds_toArray, List.set_cons_succ, List.set_cons_zero]
  go_wp2
  go_ret
  have he := HE.out
  have ks : Kp (fun b => b = f) w4 (w4.setCell ⟨f, 7, none⟩ (.int .i64 1)) := (Kp.refl (fun b => b = f) w4).setCell (fun _ => rfl) _
  refine ⟨.slice ps 8 cs, rfl, he.2.2.1.trans ks (fun b _ e => Or.inl e), ownsRow_keep he.2.2.2 ks (fun b hb e => ?_), he.1.set1 7 _ (by simp), he.2.1.keep ks (fun e => hfg e.symm)⟩
  have h1 := (ownBlock_lt he.2.2.2 hb).1
  have h2 := HB.out.1
  have e' : b = f := e
  omega

set_option maxRecDepth 100000 in
set_option maxHeartbeats 800000 in
theorem came_ok (cv : Value) (k : Int) (h : Lv w f (fetA b95 (.slice (some ⟨q, oq, none⟩) 1 cq) cv k)) : Calls Tryd.prog 91 #[.pointer (some ⟨f, 0, none⟩)] w fun e w' => e = .returned cv ∧ w' = w := by
  have c6 := h.cell (j := 6) rfl
  clear h
  go_enter Tryd.func91, Tryd.ntmps91
  go_wp2
  go_ret
  exact ⟨rfl, rfl⟩

set_option maxRecDepth 100000 in
set_option maxHeartbeats 800000 in
theorem has_ok {m : Nat} {p bl ix nd old : Int} {fp : Value} {fe : Int} (p0 ps : Option Addr) (n0 c0 n cs : Nat) (h : Lv w m (movA p bl ix nd old fp (.slice p0 n0 c0) fe)) (hfp : ∃ b, fp = .pointer b) : Calls Tryd.prog 56 #[.pointer (some ⟨m, 0, none⟩), .slice ps n cs] w fun e w' => e = .returned (.tuple #[]) ∧ Kp (fun b => b = m) w w' ∧ Lv w' m (movA 2 bl ix nd old (.pointer none) (.slice ps n cs) fe) := by
  obtain ⟨bp, rfl⟩ := hfp
  have h1 : Lv (w.setCell ⟨m, 0, none⟩ (.int .i64 2)) m (movA 2 bl ix nd old (.pointer bp) (.slice p0 n0 c0) fe) := h.set1 0 _ (by simp)
  have h2 : Lv ((w.setCell ⟨m, 0, none⟩ (.int .i64 2)).setCell ⟨m, 6, none⟩ (.slice ps n cs)) m (movA 2 bl ix nd old (.pointer bp) (.slice ps n cs) fe) := h1.set1 6 _ (by simp)
  have HF : Hid (Lv (((w.setCell ⟨m, 0, none⟩ (.int .i64 2)).setCell ⟨m, 6, none⟩ (.slice ps n cs)).setCell ⟨m, 5, none⟩ (.pointer none)) m (movA 2 bl ix nd old (.pointer none) (.slice ps n cs) fe)) := h2.set1 5 _ (by simp)
  have c0 := h.cell (j := 0) rfl
  have f0 := h.fz (j := 0) (by simp)
  have c6 := h1.cell (j := 6) rfl
  have f6 := h1.fz (j := 6) (by simp)
  have c5 := h2.cell (j := 5) rfl
  have f5 := h2.fz (j := 5) (by simp)
  clear h h1 h2
  go_enter Tryd.func56, Tryd.ntmps56
  go_wp2
  refine bodyPost_end (results_none rfl _ _ _) rfl ?_
  exact ⟨rfl, (((Kp.refl (fun b => b = m) _).setCell (fun _ => rfl) _).setCell (fun _ => rfl) _).setCell (fun _ => rfl) _, HF.out⟩

set_option maxRecDepth 100000 in
set_option maxHeartbeats 3200000 in
theorem fetched_ok {m base : Nat} (pb : Option Addr) (c : Nat) (xs : List Nat) (hM : Mn w base m f q oq cq g) (hx : Rb w pb 8 xs) : Calls Tryd.prog 50 #[.pointer (some ⟨m, 0, none⟩), .agg (msgF 13 3 9 0 true (.slice pb 8 c))] w fun e w' => ∃ ps cs, e = .returned (.bool true) ∧ Kp (fun b => b = m ∨ b = f ∨ b = g) w w' ∧ Ow w' w.heap.size (.slice ps 8 cs) xs ∧ Lv w' m (movA 2 9 0 0 3 (.pointer none) (.slice ps 8 cs) 0) := by
  have hl : Lv (w.alloc (.cells (msgF 13 3 9 0 true (.slice pb 8 c)) 45)) w.heap.size (msgF 13 3 9 0 true (.slice pb 8 c)).toList := Lv.new w _ _
  have k0 : Kp (fun _ => False) w (w.alloc (.cells (msgF 13 3 9 0 true (.slice pb 8 c)) 45)) := (Kp.refl _ _).alloc _
  obtain ⟨w0, hw0⟩ : ∃ x, x = w.alloc (.cells (msgF 13 3 9 0 true (.slice pb 8 c)) 45) := ⟨_, rfl⟩
  have hz0 : w0.heap.size = w.heap.size + 1 := by rw [hw0]; simp
  rw [← hw0] at hl k0
  have hap := hM.apart
  have lm := hM.lm.keep k0 id
  have HB : Hid (m < w.heap.size ∧ f < w.heap.size ∧ g < w.heap.size) := ⟨hM.lm.lt (by simp), hM.lf.lt (by simp), hM.lg.lt (by simp)⟩
  have kd : Kp (fun _ => False) w0 w0.drew := (Kp.refl _ _).drew
  have hS0 : (loadVar 45 ⟨w.heap.size, 0, none⟩).run Tryd.prog w0.drew = .ok (.agg (msgF 13 3 9 0 true (.slice pb 8 c))) w0.drew ∧ w0.drew.cell? ⟨m, 5, none⟩ = some (.pointer (some ⟨f, 0, none⟩)) := ⟨(hl.keep kd id).load dsMsg szMsg rfl, (lm.keep kd id).cell (j := 5) rfl⟩
  have hc1 : Calls _ _ _ w0.drew _ := (fon_ok pb c xs ((hM.lf.keep k0 id).keep kd id) ((hM.lg.keep k0 id).keep kd id) (kd.cellv (k0.cellv hM.lq id) id) hap.2.2.2.1 ((hx.keep0 k0).keep0 kd)).mono (R' := fun e w9 => e = .returned (.bool true) ∧ ((loadVar 45 ⟨w.heap.size, 0, none⟩).run Tryd.prog w9 = .ok (.agg (msgF 13 3 9 0 true (.slice pb 8 c))) w9 ∧ w9.cell? ⟨m, 5, none⟩ = some (.pointer (some ⟨f, 0, none⟩))) ∧ ∃ ps cs, Kp (fun b => b = f ∨ b = g) w0 w9 ∧ Ow w9 w0.heap.size (.slice ps 8 cs) xs ∧ Lv w9 f (fetA b95 (.slice (some ⟨q, oq, none⟩) 1 cq) (.slice (some ⟨g, 0, none⟩) 1 1) 1) ∧ Lv w9 g [.slice ps 8 cs]) (fun e w9 h => by
    obtain ⟨sv, rfl, k9, o9, l9, g9⟩ := h
    have hx8 : xs.length = 8 := hx.len
    obtain ⟨ps, cs, rfl, _⟩ := o9.rb (fun x hh => hx.byte x hh)
    rw [hx8] at o9 g9
    have kz : Kp (fun b => b = f ∨ b = g) w0 w9 := (kd.mono (fun _ _ e => e.elim)).trans k9 (fun _ _ e => e)
    have hb := HB.out
    have hbx := hl.keep kz (fun e => by rcases e with e | e <;> omega)
    have hmm := lm.keep kz (fun e => by rcases e with e | e; exact hap.1 e; exact hap.2.1 e)
    exact ⟨rfl, ⟨hbx.load dsMsg szMsg rfl, hmm.cell (j := 5) rfl⟩, ps, cs, kz, o9, l9, g9⟩)
  have HX : Hid (Lv w0 w.heap.size (msgF 13 3 9 0 true (.slice pb 8 c)).toList ∧ Lv w0 m (movA 1 9 0 0 3 (.pointer (some ⟨f, 0, none⟩)) (.slice none 0 0) 0) ∧ m ≠ f ∧ m ≠ g ∧ Kp (fun _ => False) w w0 ∧ w0.heap.size = w.heap.size + 1) := ⟨hl, lm, hap.1, hap.2.1, k0, hz0⟩
  clear hl lm hap hM hx k0 kd hz0
  go_enter Tryd.func50, Tryd.ntmps50
  go_wp2
  rw [show w.alloc (.cells (msgF 13 3 9 0 true (.slice pb 8 c)) 45) = w0 from hw0.symm]
  clear hw0
  refine fd1_region ⟨by kernel_rfl, by kernel_rfl, by kernel_rfl, by kernel_rfl, by kernel_rfl, by kernel_rfl, by kernel_rfl, by kernel_rfl, by kernel_rfl, by kernel_rfl, by kernel_rfl, by kernel_rfl, by kernel_rfl⟩ w.heap.size m f (msgF 13 3 9 0 true (.slice pb 8 c)) (fun d _ _ _ _ h => by cases d <;> exact h) (by rfl) (by rfl) (by rfl) hS0 (fun w9 => ∃ ps cs, Kp (fun b => b = f ∨ b = g) w0 w9 ∧ Ow w9 w0.heap.size (.slice ps 8 cs) xs ∧ Lv w9 f (fetA b95 (.slice (some ⟨q, oq, none⟩) 1 cq) (.slice (some ⟨g, 0, none⟩) 1 1) 1) ∧ Lv w9 g [.slice ps 8 cs]) hc1 ?_
  rintro w9 ⟨ps, cs, k9, o9, l9, g9⟩
  have hb := HB.out
  have hxx := HX.out
  have lx9 := hxx.1.keep k9 (fun e => by rcases e with e | e <;> omega)
  have lm9 := hxx.2.1.keep k9 (fun e => by rcases e with e | e; exact hxx.2.2.1 e; exact hxx.2.2.2.1 e)
  have x6 := lx9.cell (j := 6) rfl
  have m2 := lm9.cell (j := 2) rfl
  have m5 := lm9.cell (j := 5) rfl
  have g0 := g9.cell (j := 0) rfl
  have HCa : Hid (Calls _ _ _ w9 _) := came_ok (.slice (some ⟨g, 0, none⟩) 1 1) 1 l9
  have HHa : Hid (∀ z, Kp (fun _ => False) w9 z → Calls _ _ _ z _) := fun z k => has_ok none ps 0 0 8 cs (lm9.keep k id) ⟨_, rfl⟩
  have HO : Hid (Kp (fun b => b = f ∨ b = g) w0 w9 ∧ Ow w9 w0.heap.size (.slice ps 8 cs) xs) := ⟨k9, o9⟩
  clear hS0 hc1 hb hxx lx9 lm9 k9 o9 l9 g9
  simp only [Act.put, List.setIfInBounds_toArray, List.set_cons_succ, List.set_cons_zero]
  go_wp2_with (go_at_call 91; refine HCa.out.mono ?_; rintro e w10 ⟨rfl, hw10⟩; subst hw10)
  go_quiet (fail)
  have kq : Kp (fun _ => False) w10 (w10.drewN nq) := (Kp.refl _ _).drewN _
  have x6q := kq.cellv x6 id
  have g0q := kq.cellv g0 id
  go_wp2_with (go_at_call 56; refine (HHa.out _ kq).mono ?_; rintro e w11 ⟨rfl, k11, l11⟩)
  go_ret
  have hb := HB.out
  have hxx := HX.out
  have ho := HO.out
  have kk : Kp (fun b => b = m) w10 w11 := (kq.mono (fun _ _ e => e.elim)).trans k11 (fun _ _ e => e)
  refine ⟨ps, cs, rfl, ?_, ?_, l11⟩
  · exact ((hxx.2.2.2.2.1.mono (fun _ _ e => e.elim)).trans (Kp.mono (S' := fun b => b = m ∨ b = f ∨ b = g) ho.1 (fun _ _ e => Or.inr e)) (fun _ _ e => e)).trans kk (fun _ _ e => Or.inl e)
  · have o2 := ownsRow_keep ho.2 kk (fun b hb2 e => by
      have h1 := (ownBlock_lt ho.2 hb2).1
      have e' : b = m := e
      omega)
    exact ownsRow_base o2 (by omega)
end
end Go.Proofs.YtmncocmeafcpfaaDoor

/- Two lists of one message, the same, without lists: amphoraplain.SameMsgs. -/
namespace Go.Proofs.YtmncocmeafcpfaaDoor
set_option linter.unusedVariables false
set_option linter.unusedSimpArgs false
open Go.RowKit Go.Deep

abbrev nilA (s : Ms0) : Array Value := msgA s (.slice none 0 0) (.slice none 0 0) (.slice none 0 0)
theorem fl_nil (w : World) (Z : Nat → Prop) (p : Option Addr) : Fl w Z p [] := fun j u hu => by simp at hu
theorem mr_nil (w : World) (Z : Nat → Prop) (s : Ms0) : Mr w Z ⟨s, [], [], []⟩ (.agg (nilA s)) :=
  ⟨none, 0, none, 0, [], none, 0, rfl, fl_nil _ _ _, (show 0 * 8 ≤ 140737488355328 by decide), rfl, fl_nil _ _ _, (fun x hx => by cases hx), (show 0 * 136 ≤ 140737488355328 by decide), fl_nil _ _ _, (fun x hx => by cases hx), (show 0 ≤ 140737488355328 by decide)⟩

set_option maxRecDepth 100000 in
set_option maxHeartbeats 1600000 in
theorem eqf_msgs1 (s : Ms0) (g1 g2 c1 c2 : Nat) (w : World) (h1 : Lv w g1 (nilA s).toList) (h2 : Lv w g2 (nilA s).toList) :
    Calls Tryd.prog 53 #[.slice (some ⟨g1, 0, none⟩) 1 c1, .slice (some ⟨g2, 0, none⟩) 1 c2, .func (.func 31) #[] #[]] w fun e w' => e = .returned (.bool true) ∧ Kp (fun _ => False) w w' := by
  have HSv : Hid (∀ u, Calls _ _ _ u _) := fun u => same_msg (fun _ => True) (fun _ => True) ⟨s, [], [], []⟩ _ _ u (mr_nil u _ s) (mr_nil u _ s)
  have HR1 : Hid (Lv w g1 (nilA s).toList) := h1
  have HR2 : Hid (∀ u, Kp (fun _ => False) w u → Lv u g2 (nilA s).toList) := fun u k => h2.keep k id
  have HO : Hid ((nilA s).toList.toArray.all (·.oneCell') = true) := msg_one s rfl rfl rfl
  obtain ⟨L, hL⟩ : ∃ L, L = 1 := ⟨_, rfl⟩
  clear h1 h2
  go_enter Tryd.func53, Tryd.ntmps53
  go_wp2
  go_loopg [17] 1 (fun gk i wr => ∃ k : Nat, k ≤ 1 ∧ gk = 1 - k ∧ i = .int .i64 k ∧ (k = 0 → wr = w) ∧ Kp (fun _ => False) w wr)
  case atStart => exact ⟨0, by omega, rfl, rfl, fun _ => rfl, Kp.refl _ _⟩
  case round =>
    obtain ⟨k, hk, rfl, rfl, h0, hK⟩ := hrel
    by_cases hk0 : k = 0
    · subst hk0
      obtain rfl := h0 rfl
      clear h0 hK
      go_wp2_with (first
        | (refine wpList_load_all rfl 45 _ rfl 24 g1 (nilA s).toList rfl HR1.out dsMsg szMsg rfl ?_)
        | (refine wpList_store_all rfl 45 _ _ rfl 24 wr.heap.size zeroM.toList (nilA s).toList rfl rfl (by exact Lv.new wr _ _) szMsg rfl rfl HO.out ?_; intro u2 hl2 k2; have ku2 : Kp (fun _ => False) wr u2 := ((Kp.refl (fun _ => False) wr).alloc _).trans k2 (fun b hb e => by omega); have HR2' : Hid (Lv u2 g2 (nilA s).toList) := HR2.out u2 ku2; have HL2 : Hid (Lv u2 wr.heap.size (nilA s).toList) := hl2; clear hl2 k2)
        | (refine wpList_load_all rfl 45 _ rfl 24 g2 (nilA s).toList rfl HR2'.out dsMsg szMsg rfl ?_)
        | (refine wpList_store_all rfl 45 _ _ rfl 24 u2.heap.size zeroM.toList (nilA s).toList rfl rfl (by exact Lv.new u2 _ _) szMsg rfl rfl HO.out ?_; intro u3 hl3 k3; have ku3 : Kp (fun _ => False) u2 u3 := ((Kp.refl (fun _ => False) u2).alloc _).trans k3 (fun b hb e => by omega); have HL3 : Hid (Lv u3 u2.heap.size (nilA s).toList) := hl3; have HL2' : Hid (Lv u3 wr.heap.size (nilA s).toList) := HL2.out.keep ku3 id; have kw3 := ku2.trans ku3 (fun _ _ e => e); clear hl3 k3)
        | (refine wpList_load_all rfl 45 _ rfl 24 wr.heap.size (nilA s).toList rfl HL2'.out dsMsg szMsg rfl ?_)
        | (refine wpList_load_all rfl 45 _ rfl 24 u2.heap.size (nilA s).toList rfl HL3.out dsMsg szMsg rfl ?_)
        | (go_at_call 31; refine (HSv.out _).mono ?_; rintro e u4 ⟨rfl, k4⟩))
      go_roundg 0
      case rel => exact ⟨1, by omega, rfl, by go_num, fun h => absurd h (by decide), kw3.trans k4 (fun _ _ e => e)⟩
      case measure => omega
    · obtain rfl : k = 1 := by omega
      go_wp2
      go_ret
      exact ⟨rfl, hK⟩

set_option maxRecDepth 100000 in
set_option maxHeartbeats 800000 in
theorem same_msgs1 (s : Ms0) (g1 g2 c1 c2 : Nat) (w : World) (h1 : Lv w g1 (nilA s).toList) (h2 : Lv w g2 (nilA s).toList) :
    Calls Tryd.prog 23 #[.slice (some ⟨g1, 0, none⟩) 1 c1, .slice (some ⟨g2, 0, none⟩) 1 c2] w fun e w' => e = .returned (.bool true) ∧ Kp (fun _ => False) w w' := by
  have H : Hid (Calls _ _ _ w _) := eqf_msgs1 s g1 g2 c1 c2 w h1 h2
  clear h1 h2
  go_enter Tryd.func23, Tryd.ntmps23
  go_wp2_with (go_at_call 53; refine H.out.mono ?_; rintro e w1 ⟨rfl, k1⟩)
  go_ret
  exact ⟨rfl, k1⟩
end Go.Proofs.YtmncocmeafcpfaaDoor

/- Movers: Asks of one whose shard is durable. -/
namespace Go.Proofs.YtmncocmeafcpfaaDoor
set_option linter.unusedVariables false
set_option linter.unusedSimpArgs false
open Go.RowKit Go.Deep


section
variable {w : World} {m : Nat} {fp sv : Value} {fe : Int}

set_option maxRecDepth 100000 in
set_option maxHeartbeats 3200000 in
theorem masks_fence (ep : Int) (h : Lv w m (movA 3 9 0 0 3 fp sv fe)) : Calls Tryd.prog 24 #[.pointer (some ⟨m, 0, none⟩), .int .i64 ep] w fun e w' => ∃ g, e = .returned (.slice (some ⟨g, 0, none⟩) 1 1) ∧ Kp (fun _ => False) w w' ∧ Lv w' g (msgA ⟨14, 0, 3, 0, 0, 9, 0, fe, 0, false, ⟨0, 0, ⟨#[]⟩, 0, 0, 0, 0, 0, 0, 0, 0⟩⟩ (.slice none 0 0) (.slice none 0 0) (.slice none 0 0)).toList := by
  have m0 := h.cell (j := 0) rfl
  have m1 := h.cell (j := 1) rfl
  have m2 := h.cell (j := 2) rfl
  have m3 := h.cell (j := 3) rfl
  have m4 := h.cell (j := 4) rfl
  have m7 := h.cell (j := 7) rfl
  have H1 : Hid (Calls _ _ _ _ _) := mphase_ok m 3 w m0
  have HSw : Hid (∀ z, Kp (fun _ => False) w z → z.cell? ⟨m, 1, none⟩ = some (.int .i64 9) ∧ z.cell? ⟨m, 2, none⟩ = some (.int .i64 0) ∧ z.cell? ⟨m, 3, none⟩ = some (.int .i64 0) ∧ z.cell? ⟨m, 4, none⟩ = some (.int .i64 3) ∧ z.cell? ⟨m, 7, none⟩ = some (.int .i64 fe)) := fun z k => ⟨k.cellv m1 id, k.cellv m2 id, k.cellv m3 id, k.cellv m4 id, k.cellv m7 id⟩
  clear h
  go_enter Tryd.func24, Tryd.ntmps24
  go_wp2_with (go_at_call 15; refine H1.out.mono ?_; rintro e w1 ⟨rfl, hw1⟩; subst hw1)
  have kd : Kp (fun _ => False) w1 w1.drew := (Kp.refl _ _).drew
  go_region_held3 (fun z => z.cell? ⟨m, 1, none⟩ = some (.int .i64 9) ∧ z.cell? ⟨m, 2, none⟩ = some (.int .i64 0) ∧ z.cell? ⟨m, 3, none⟩ = some (.int .i64 0) ∧ z.cell? ⟨m, 4, none⟩ = some (.int .i64 3) ∧ z.cell? ⟨m, 7, none⟩ = some (.int .i64 fe))
    (first
      | exact HSw.out _ kd
      | exact HSw.out _ (kd.alloc _))
    (fail)
  go_wp2
  go_ret
  exact ⟨_, rfl, (Kp.refl _ _).drew.alloc _, (Lv.new _ _ _).keep ((Kp.refl (fun _ => False) _).drew) id⟩

end
end Go.Proofs.YtmncocmeafcpfaaDoor

/- The walk of the law MoverFences: a mover whose shard is durable asks to fence the old holder, until it hears that it is, or has failed. -/
namespace Go.Proofs.YtmncocmeafcpfaaDoor
set_option linter.unusedVariables false
set_option linter.unusedSimpArgs false
open Go.RowKit Go.Deep

theorem mdE (k n : Int) (hk : 0 < k) (hk2 : k ≤ 4611686018427387904) : ∃ m : Int, wrap64 ((IntKind.u64.wrap n).tmod k) = m ∧ 0 ≤ m ∧ m < k := by
  have h0 : 0 ≤ IntKind.u64.wrap n := by rw [IntKind.wrap_u64]; omega
  rw [Int.tmod_eq_emod_of_nonneg h0]
  have h1 := Int.emod_nonneg (IntKind.u64.wrap n) (by omega : k ≠ 0)
  have h2 := Int.emod_lt_of_pos (IntKind.u64.wrap n) hk
  refine ⟨IntKind.u64.wrap n % k, ?_, h1, h2⟩
  unfold wrap64
  generalize IntKind.u64.wrap n % k = q at h1 h2
  omega

section
variable {w : World} {f q oq cq g : Nat}
set_option maxRecDepth 100000 in
set_option maxHeartbeats 1600000 in
theorem mon_fetch {m base : Nat} (pb : Option Addr) (c : Nat) (xs : List Nat) (hM : Mn w base m f q oq cq g) (hx : Rb w pb 8 xs) : Calls Tryd.prog 16 #[.pointer (some ⟨m, 0, none⟩), .agg (msgF 13 3 9 0 true (.slice pb 8 c))] w fun e w' => ∃ ps cs, e = .returned (.bool true) ∧ Kp (fun b => b = m ∨ b = f ∨ b = g) w w' ∧ Ow w' w.heap.size (.slice ps 8 cs) xs ∧ Lv w' m (movA 2 9 0 0 3 (.pointer none) (.slice ps 8 cs) 0) := by
  have k0 : Kp (fun _ => False) w (w.alloc (.cells (msgF 13 3 9 0 true (.slice pb 8 c)) 45)) := (Kp.refl _ _).alloc _
  have HX : Hid (Lv (w.alloc (.cells (msgF 13 3 9 0 true (.slice pb 8 c)) 45)) w.heap.size (msgF 13 3 9 0 true (.slice pb 8 c)).toList) := Lv.new w _ _
  have hM' : Mn (w.alloc (.cells (msgF 13 3 9 0 true (.slice pb 8 c)) 45)) base m f q oq cq g := ⟨hM.lm.keep k0 id, hM.lf.keep k0 id, hM.lg.keep k0 id, k0.cellv hM.lq id, hM.fresh, hM.apart⟩
  have H1 : Hid (Calls _ _ _ _ _) := mphase_ok m 1 _ (hM'.lm.cell (j := 0) rfl)
  have H2 : Hid (Calls _ _ _ _ _) := fetched_ok pb c xs hM' (hx.keep0 k0)
  clear hM hM' hx
  go_enter Tryd.func16, Tryd.ntmps16
  go_wp2_with (first | (refine wpList_load_all rfl 45 _ rfl 24 w.heap.size (msgF 13 3 9 0 true (.slice pb 8 c)).toList rfl HX.out dsMsg szMsg rfl ?_) | (go_at_call 15; refine H1.out.mono ?_; rintro e w1 ⟨rfl, hw1⟩; subst hw1) | (go_at_call 50; refine H2.out.mono ?_; rintro e w2 ⟨ps, cs, rfl, k2, o2, l2⟩))
  go_ret
  exact ⟨ps, cs, rfl, (k0.mono (fun _ _ e => e.elim)).trans k2 (fun _ _ e => e), ownsRow_base o2 (by simp), l2⟩
end

theorem sl_firstL (p : Option Addr) (n c r : Nat) (hr : r ≤ c) (w : World) :
    (Instr.slice 22 (.slice p n c) none (some (.int .i64 (r : Int))) none).run Tryd.prog w = .ok (.slice p r c) w := by
  obtain ⟨i, hi, hz⟩ := Option.map_eq_some_iff.1 info5
  simp only [Prod.mk.injEq] at hz
  obtain ⟨hz, hs, hb⟩ := hz
  have h2 : (0 : Int) ≤ r ∧ (r : Int) ≤ (c : Int) := by omega
  simp [Instr.slice, Instr.sliceBounds, Instr.sliceBound, asIntOf, run_underlying Tryd.underlying22, sizeOf, typeInfo, hi, hr]
  cases p <;> simp [Addr.add]

set_option maxRecDepth 100000 in
set_option maxHeartbeats 3200000 in
theorem moverFences_walk (ep : Int) (p : Option Addr) (n c : Nat) (xs : List Nat) (skip : Bool) (w : World) (_h0 : (Lit.int .i64 ep).wf = true) (h : Rb w p n xs) (hc : n ≤ c) (hn : Hid (n ≤ 140737488355328)) :
    Calls Tryd.prog 4 #[.int .i64 ep, .slice p n c, .bool skip] w fun e w' => e = .returned (.bool true) ∧ Kp (fun _ => False) w w' := by
  clear _h0
  obtain ⟨E, hE, hE0, hE1⟩ := mdE 1000 ep (by omega) (by omega)
  obtain ⟨r, hr⟩ : ∃ r, r = min n 8 := ⟨_, rfl⟩
  have hr8 : r ≤ 8 := by omega
  have hrn : r ≤ n := by omega
  have hmin : min (n : Int) 8 = (r : Int) := by omega
  have hsl := fun w => sl_firstL p n c r (by omega) w
  have h8r : (8 : Int) - (r : Int) = ((8 - r : Nat) : Int) := by omega
  have hw8 : wrap64 ((8 - r : Nat) : Int) = ((8 - r : Nat) : Int) := by unfold wrap64; omega
  have hw8b : wrap64 ((8 : Int) - (r : Int)) = ((8 - r : Nat) : Int) := by rw [h8r, hw8]
  have hwE : wrap64 (E + 1) = E + 1 := by unfold wrap64; omega
  have hx : Rb w p r (xs.take r) := by
    refine ⟨by rw [List.length_take, h.len]; omega, fun x hx => h.byte x (List.mem_of_mem_take hx), fun j hj => ?_⟩
    obtain ⟨b, o, e1, e2⟩ := h.cell j (by omega)
    refine ⟨b, o, e1, ?_⟩
    rw [e2, List.getD_eq_getElem?_getD, List.getD_eq_getElem?_getD, List.getElem?_take_of_lt hj]
  have HXL : Hid ((xs.take r).length = r) := hx.len
  obtain ⟨ys, hys⟩ : ∃ ys, ys = xs.take r ++ nou (8 - r) := ⟨_, rfl⟩
  have HY : Hid (ys = xs.take r ++ nou (8 - r) ∧ ys.length = 8 ∧ ∀ x ∈ ys, x < 256) := by
    refine ⟨hys, by rw [hys, List.length_append, nou_len, hx.len]; omega, fun x hxx => ?_⟩
    rw [hys, List.mem_append] at hxx
    rcases hxx with e | e
    · exact hx.byte x e
    · have : x = 0 := by simpa [nou] using (List.mem_replicate.1 e).2
      omega
  have HV : Hid (∀ (v : Value) (z : World) (b : Nat), Ow z b v (xs.take r ++ nou (8 - r)) → ∃ p3 c3, v = .slice p3 8 c3 ∧ Rb z p3 8 ys ∧ (∀ a, p3 = some a → b ≤ a.block ∧ v.ownBlock = some a.block)) := fun v z b o => by
    rw [← hys] at o
    obtain ⟨p3, c3, e, _, r3, h3⟩ := o.rb HY.out.2.2
    rw [HY.out.2.1] at e r3
    exact ⟨p3, c3, e, r3, h3⟩
  have HV2 : Hid (∀ (z : World) (b : Nat) (ps : Option Addr) (cs : Nat), Ow z b (.slice ps 8 cs) ys → Rb z ps 8 ys) := fun z b ps cs o => by
    obtain ⟨p3, c3, e, _, r3, h3⟩ := o.rb HY.out.2.2
    rw [HY.out.2.1] at e r3
    injection e with e1 e2 e3
    rw [e1]
    exact r3
  clear hys
  have hl : Lv (w.alloc (.cells #[.int .i64 3] 3)) w.heap.size [.int .i64 3] := Lv.new w _ _
  have HN : Hid (∀ z, Kp (fun _ => False) (w.alloc (.cells #[.int .i64 3] 3)) z → Calls _ _ _ z _) := fun z k => new10 w.heap.size 0 1 z (k.cellv (hl.cell (j := 0) rfl) id) (by omega)
  have HC : Hid (∀ z, Kp (fun _ => False) w z → Calls Tryd.prog 17 #[.slice p r c] z fun e w'' => ∃ v, e = .returned v ∧ Kp (fun _ => False) z w'' ∧ Ow w'' z.heap.size v (xs.take r)) := fun z k => clone_any p r c _ z (hx.keep0 k) (by show _ ≤ _; omega)
  have k0 : Kp (fun _ => False) w (w.alloc (.cells #[.int .i64 3] 3)) := (Kp.refl _ _).alloc _
  clear h hc hn hx hl hr
  go_enter Tryd.func4, Tryd.ntmps4
  go_wp2_with fail
  refine (HN.out _ ((Kp.refl _ _).alloc _)).mono ?_
  rintro e w1 ⟨m, f, q, oq, cq, g, rfl, k1, M1⟩
  have hfr := M1.fresh
  simp only [World.size_alloc] at hfr
  have HFR : Hid (w.heap.size ≤ m ∧ w.heap.size ≤ f ∧ w.heap.size ≤ g ∧ m < w1.heap.size ∧ f < w1.heap.size ∧ g < w1.heap.size) := ⟨by omega, by omega, by omega, M1.lm.lt (by simp), M1.lf.lt (by simp), M1.lg.lt (by simp)⟩
  have HM1 : Hid (Mn w1 ((w.alloc (.cells #[.int .i64 3] 3)).alloc (.cells #[.int .i64 9, .int .i64 5, .int .u32 0, .int .i64 1, .int .i64 0, .slice (some ⟨w.heap.size, 0, none⟩) 1 1] 33)).heap.size m f q oq cq g) := M1
  have HK1 : Hid (Kp (fun _ => False) w w1) := (k0.alloc _).trans k1 (fun _ _ e => e)
  clear HN M1 hfr k1 k0
  go_wp2_with fail
  refine (HC.out _ HK1.out).mono ?_
  rintro e w2 ⟨v2, rfl, k2, o2⟩
  have HO2 : Hid (Ow w2 w1.heap.size v2 (xs.take r)) := o2
  have HK2 : Hid (Kp (fun _ => False) w1 w2) := k2
  clear HC k2 o2
  go_wp2_with (at_builtin; go_must (refine wpList_append_nou _ rfl _ _ rfl w1.heap.size _ (xs.take r) (8 - r) rfl rfl (by omega) (by rw [HXL.out]; omega) HO2.out HK2.out.size ?_); intro v3 w3 o3 k3 hb3; obtain ⟨p3, c3, hv3, rb3, hp3⟩ := HV.out _ _ _ o3; have HK3 : Hid (Kp (fun _ => False) w1 w3) := Kp.app HK2.out HO2.out k3; clear k3 hb3 o3; subst hv3)
  have hM3 : Mn w3 _ m f q oq cq g := ⟨HM1.out.lm.keep HK3.out id, HM1.out.lf.keep HK3.out id, HM1.out.lg.keep HK3.out id, HK3.out.cellv HM1.out.lq id, HM1.out.fresh, HM1.out.apart⟩
  have HON : Hid (Calls _ _ _ w3 _) := mon_fetch p3 c3 ys hM3 rb3
  have HR3 : Hid (Rb w3 p3 8 ys ∧ ∀ a, p3 = some a → w1.heap.size ≤ a.block) := ⟨rb3, fun a ha => (hp3 a ha).1⟩
  clear hM3 rb3 hp3 HO2 HK2 HM1
  refine HON.out.mono ?_
  rintro e w4 ⟨ps, cs, rfl, k4, o4, l4⟩
  have HK4 : Hid (Kp (fun b => b = m ∨ b = f ∨ b = g) w3 w4) := k4
  have HR4 : Hid (Rb w4 p3 8 ys) := HR3.out.1.keep k4 (fun a ha _ e => by
    have h1 := HR3.out.2 a ha
    have h2 := HFR.out
    have e' : a.block = m ∨ a.block = f ∨ a.block = g := e
    omega)
  have HL4 : Hid (Lv w4 m (movA 2 9 0 0 3 (.pointer none) (.slice ps 8 cs) 0)) := l4
  have HSH : Hid (Calls _ _ _ w4 _) := mshard_ok ps 8 cs ys l4 (by decide) (HV2.out _ _ _ _ o4) (by show _ ≤ _; decide)
  clear HON k4 o4 l4
  go_wp2_with fail
  refine HSH.out.mono ?_
  rintro e w5 ⟨v5, rfl, k5, o5⟩
  obtain ⟨p5, c5, hv5, rb5, _⟩ := HV.out v5 w5 _ (by rw [← HY.out.1]; exact o5)
  subst hv5
  have HBE : Hid (Calls _ _ _ w5 _) := bytes_same p5 p3 8 8 c5 c3 ys w5 rb5 (HR4.out.keep0 k5)
  have HK5 : Hid (Kp (fun _ => False) w4 w5) := k5
  have HL5 : Hid (Lv w5 m (movA 2 9 0 0 3 (.pointer none) (.slice ps 8 cs) 0)) := HL4.out.keep k5 id
  have HSK : Hid (Calls _ _ _ w5 _) := mskip_no HL5.out (by decide) (by decide)
  have HST : Hid (Calls _ _ _ w5 _) := mstored_ok E HL5.out hE0 hE1
  clear HSH k5 o5 rb5 HV HV2
  go_wp2_with (first
    | (go_at_call 18; refine HBE.out.mono ?_; rintro e z1 ⟨rfl, hz1⟩; subst hz1)
    | (go_at_call 21; refine HSK.out.mono ?_; rintro e z1 ⟨rfl, hz1⟩; subst hz1)
    | (go_at_call 22; refine HST.out.mono ?_; rintro e w6 ⟨rfl, k6, l6⟩; have HL6 : Hid (Lv w6 m (movA 3 9 0 0 3 (.pointer none) (.slice ps 8 cs) (E + 1))) := l6; have HK6 : Hid (Kp (fun b => b = m) _ w6) := k6; clear l6 k6)
    | (go_at_call 15; refine (mphase_ok m 3 _ (HL6.out.cell (j := 0) rfl)).mono ?_; rintro e z1 ⟨rfl, hz1⟩; subst hz1))
  have HKZ : Hid (Kp (fun _ => False) w z1) := by
    have hf := HFR.out
    have a1 := HK1.out.trans HK3.out (fun _ _ e => e)
    have a2 := a1.trans HK4.out (fun b hb e => by have e' : b = m ∨ b = f ∨ b = g := e; omega)
    have a3 := a2.trans HK5.out (fun _ _ e => e)
    exact a3.trans HK6.out (fun b hb e => by have e' : b = m := e; omega)
  clear HK1 HK3 HK4 HK5 HK6 HL4 HL5 HR4 HR3 HBE HSK HST
  have ka : Kp (fun _ => False) z1 (z1.alloc (.cells #[.int .i64 14, .int .i64 0, .int .i64 3, .int .i64 0, .int .i64 0, .int .i64 9, .int .i64 0, .int .i64 (E + 1), .int .i64 0, .bool false, .int .i64 0, .int .i64 0, .string ⟨#[]⟩, .int .i64 0, .int .i64 0, .int .i64 0, .int .i64 0, .int .i64 0, .int .u32 0, .int .i64 0, .int .i64 0, .slice none 0 0, .slice none 0 0, .slice none 0 0] 45)) := (Kp.refl _ _).alloc _
  have lw : Lv (z1.alloc (.cells #[.int .i64 14, .int .i64 0, .int .i64 3, .int .i64 0, .int .i64 0, .int .i64 9, .int .i64 0, .int .i64 (E + 1), .int .i64 0, .bool false, .int .i64 0, .int .i64 0, .string ⟨#[]⟩, .int .i64 0, .int .i64 0, .int .i64 0, .int .i64 0, .int .i64 0, .int .u32 0, .int .i64 0, .int .i64 0, .slice none 0 0, .slice none 0 0, .slice none 0 0] 45)) z1.heap.size (nilA ⟨14, 0, 3, 0, 0, 9, 0, E + 1, 0, false, ⟨0, 0, ⟨#[]⟩, 0, 0, 0, 0, 0, 0, 0, 0⟩⟩).toList := Lv.new z1 _ _
  refine (masks_fence 7 (HL6.out.keep ka id)).mono ?_
  rintro e w7 ⟨g7, rfl, k7, l7⟩
  have HSM : Hid (Calls _ _ _ w7 _) := same_msgs1 ⟨14, 0, 3, 0, 0, 9, 0, E + 1, 0, false, ⟨0, 0, ⟨#[]⟩, 0, 0, 0, 0, 0, 0, 0, 0⟩⟩ g7 z1.heap.size 1 1 w7 l7 (lw.keep k7 id)
  have HK7 : Hid (Kp (fun _ => False) z1 w7) := ka.trans k7 (fun _ _ e => e)
  have HL7 : Hid (∀ u, Kp (fun _ => False) w7 u → Lv u m (movA 3 9 0 0 3 (.pointer none) (.slice ps 8 cs) (E + 1))) := fun u k => (HL6.out.keep HK7.out id).keep k id
  clear ka lw k7 l7 HL6
  go_wp2_with (first
    | (go_at_call 23; refine HSM.out.mono ?_; rintro e w8 ⟨rfl, k8⟩; have HK8 : Hid (Kp (fun _ => False) w7 w8) := k8; clear k8))
  refine (mon_not (HL7.out _ HK8.out)).mono ?_
  rintro e w9 ⟨rfl, k9⟩
  have HK9 : Hid (Kp (fun _ => False) w7 w9) := HK8.out.trans k9 (fun _ _ e => e)
  clear k9 HK8 HSM
  go_wp2_with fail
  refine (mon_other (HL7.out _ HK9.out)).mono ?_
  rintro e w10 ⟨rfl, k10⟩
  have HK10 : Hid (Kp (fun _ => False) w7 w10) := HK9.out.trans k10 (fun _ _ e => e)
  have HL10 : Hid (Lv w10 m (movA 3 9 0 0 3 (.pointer none) (.slice ps 8 cs) (E + 1))) := HL7.out _ HK10.out
  have HKW : Hid (Kp (fun _ => False) w w10) := (HKZ.out.trans HK7.out (fun _ _ e => e)).trans HK10.out (fun _ _ e => e)
  have HFM : Hid (w.heap.size ≤ m) := HFR.out.1
  clear k10 HK9 HK10 HL7 HK7 HKZ HFR
  cases skip with
  | true =>
    have HSK : Hid (Calls _ _ _ w10 _) := mskip_ok HL10.out
    go_wp2_with (first
      | (go_at_call 21; refine HSK.out.mono ?_; rintro e w11 ⟨rfl, k11, l11⟩; have HL11 : Hid (Lv w11 m (movA 4 9 0 0 3 (.pointer none) (.slice ps 8 cs) (E + 1))) := l11; have HK11 : Hid (Kp (fun b => b = m) w10 w11) := k11; clear l11 k11)
      | (go_at_call 15; refine (mphase_ok m 4 _ (HL11.out.cell (j := 0) rfl)).mono ?_; rintro e z2 ⟨rfl, hz2⟩; subst hz2)
      | (go_at_call 24; refine (masks_done 7 HL11.out).mono ?_; rintro e z3 ⟨rfl, hz3⟩; subst hz3))
    go_ret
    exact ⟨rfl, HKW.out.trans HK11.out (fun b hb e => by have h1 := HFM.out; have e' : b = m := e; omega)⟩
  | false =>
    have HSK : Hid (Calls _ _ _ w10 _) := mon_fenced HL10.out
    go_wp2_with (first
      | (go_at_call 16; refine HSK.out.mono ?_; rintro e w11 ⟨rfl, k11, l11⟩; have HL11 : Hid (Lv w11 m (movA 4 9 0 0 3 (.pointer none) (.slice ps 8 cs) (E + 1))) := l11; have HK11 : Hid (Kp (fun b => b = m) w10 w11) := k11; clear l11 k11)
      | (go_at_call 15; refine (mphase_ok m 4 _ (HL11.out.cell (j := 0) rfl)).mono ?_; rintro e z2 ⟨rfl, hz2⟩; subst hz2)
      | (go_at_call 24; refine (masks_done 7 HL11.out).mono ?_; rintro e z3 ⟨rfl, hz3⟩; subst hz3))
    go_ret
    exact ⟨rfl, HKW.out.trans HK11.out (fun b hb e => by have h1 := HFM.out; have e' : b = m := e; omega)⟩
end Go.Proofs.YtmncocmeafcpfaaDoor
