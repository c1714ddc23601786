/- A put whose shard is refused: shards.lies, waits, Refused, onStored, On. -/
import Derived.Test.YtmncocmeafcpfaaDoorZh
namespace Go.Proofs.YtmncocmeafcpfaaDoor
set_option linter.unusedVariables false
set_option linter.unusedSimpArgs false
open Go.RowKit Go.Deep

set_option maxRecDepth 100000 in
set_option maxHeartbeats 1600000 in
theorem lies_yes (kind src bl : Int) (i G c : Nat) (ok : Bool) (bv : Value) (q : Option Addr) (Y : Nat → Prop) (zs : List Int) (w : World) (hf : Fl w Y q (zs.map encI)) (hi : i < zs.length) (hG : G = zs.length) (hsrc : src = zs[i]) :
    Calls Tryd.prog 96 #[.agg (msgF kind src bl (i : Int) ok bv), .int .i64 bl, .slice q G c] w fun e w' => e = .returned (.bool true) ∧ Kp (fun _ => False) w w' := by
  have hl : Lv (w.alloc (.cells (msgF kind src bl (i : Int) ok bv) 45)) w.heap.size (msgF kind src bl (i : Int) ok bv).toList := Lv.new w _ _
  have k0 : Kp (fun _ => False) w (w.alloc (.cells (msgF kind src bl (i : Int) ok bv) 45)) := (Kp.refl _ _).alloc _
  obtain ⟨b, o, rfl, _, e1⟩ := (hf.keep k0 (fun _ _ => id)) i (encI src) (by rw [List.getElem?_map, List.getElem?_eq_getElem hi, hsrc]; rfl)
  have x1 := hl.cell (j := 1) rfl
  have x5 := hl.cell (j := 5) rfl
  have x6 := hl.cell (j := 6) rfl
  have h0 : (i : Int) ≥ 0 := by omega
  have h1 : (i : Int) < (G : Int) := by omega
  clear hf hl hi hG hsrc
  obtain ⟨u, hu⟩ : ∃ x, x = w.alloc (.cells (msgF kind src bl (i : Int) ok bv) 45) := ⟨_, rfl⟩
  have e0 : w.alloc (.cells (msgF kind src bl (i : Int) ok bv) 45) = u := hu.symm
  rw [e0] at x1 x5 x6 e1 k0
  clear hu
  go_enter Tryd.func96, Tryd.ntmps96
  go_wp2
  try rw [e0]
  clear e0
  go_quiet (fail)
  go_wp2
  go_ret
  exact ⟨rfl, k0.drewN _⟩
-- behind lies_yes
set_option maxRecDepth 100000 in
set_option maxHeartbeats 3200000 in
theorem waits_yes {w : World} {base sp : Nat} {bl : Int} {G : Nat} {zs : List Int} {t : Nat} {B : Nat → Nat} {N : Nat} {X : Nat → Nat → Nat} (h : Sto w base sp bl G zs t B N X) (hN : 1 ≤ N) (src : Int) (i : Nat) (ok : Bool) (bv : Value) (hi : i < zs.length) (hsrc : src = zs[i]) :
    Calls Tryd.prog 97 #[.pointer (some ⟨sp, 0, none⟩), .agg (msgF 11 src bl (i : Int) ok bv)] w fun e w' => e = .returned (.bool true) ∧ Kp (fun _ => False) w w' := by
  obtain ⟨q2, c2, ls, hf⟩ := h.s
  have hG := h.g
  have ht : w.cell? ⟨t, i, none⟩ = some (.slice (some ⟨B i, 0, none⟩) N N) := h.m.top.cell (by omega)
  have k0 : Kp (fun _ => False) w (w.alloc (.cells (msgF 11 src bl (i : Int) ok bv) 45)) := (Kp.refl _ _).alloc _
  have HB : Hid (Lv (w.alloc (.cells (msgF 11 src bl (i : Int) ok bv) 45)) w.heap.size ((msgF 11 src bl (i : Int) ok bv)).toList) := Lv.new w _ _
  have HL : Hid (∀ u, Kp (fun _ => False) w u → Calls _ _ _ u _) := fun u k => lies_yes 11 src bl i G c2 ok bv q2 _ zs u (hf.keep k (fun _ _ => id)) hi hG hsrc
  have HS : Hid (∀ z, Kp (fun _ => False) w z → z.cell? ⟨sp, 0, none⟩ = some (.int .i64 bl) ∧ z.cell? ⟨sp, 1, none⟩ = some (.slice q2 G c2) ∧ z.cell? ⟨sp, 2, none⟩ = some (.slice (some ⟨t, 0, none⟩) G G) ∧ z.cell? ⟨t, i, none⟩ = some (.slice (some ⟨B i, 0, none⟩) N N) ∧ (i : Int) < (G : Int) ∧ (0 : Int) < (N : Int)) := fun z k => ⟨(ls.keep k id).cell (j := 0) rfl, (ls.keep k id).cell (j := 1) rfl, (ls.keep k id).cell (j := 2) rfl, k.cellv ht id, by omega, by omega⟩
  obtain ⟨mv, hmv⟩ : ∃ mv : Array Value, mv = (msgF 11 src bl (i : Int) ok bv) := ⟨_, rfl⟩
  have HMV : Hid (mv = (msgF 11 src bl (i : Int) ok bv)) := hmv
  rw [← hmv] at HB k0 HL ⊢
  clear h ls hf hG ht hN hi hsrc hmv
  go_enter Tryd.func97, Tryd.ntmps97
  go_wp2
  obtain ⟨u, hu⟩ : ∃ x, x = w.alloc (.cells mv 45) := ⟨_, rfl⟩
  obtain ⟨bx, hbx⟩ : ∃ x, x = w.heap.size := ⟨_, rfl⟩
  rw [← hu, ← hbx] at HB
  rw [← hu] at k0
  rw [← hu, ← hbx]
  clear hu hbx
  have kd : Kp (fun _ => False) u u.drew := (Kp.refl _ _).drew
  have HSS : Hid (∀ z, Kp (fun _ => False) u z → z.cell? ⟨bx, 0, none⟩ = some (.int .i64 11) ∧ z.cell? ⟨bx, 6, none⟩ = some (.int .i64 (i : Int)) ∧ (loadVar 45 ⟨bx, 0, none⟩).run Tryd.prog z = .ok (.agg mv) z ∧ z.cell? ⟨sp, 0, none⟩ = some (.int .i64 bl) ∧ z.cell? ⟨sp, 1, none⟩ = some (.slice q2 G c2) ∧ z.cell? ⟨sp, 2, none⟩ = some (.slice (some ⟨t, 0, none⟩) G G) ∧ z.cell? ⟨t, i, none⟩ = some (.slice (some ⟨B i, 0, none⟩) N N) ∧ (i : Int) < (G : Int) ∧ (0 : Int) < (N : Int)) := fun z kz => by
    have lb := HB.out.keep kz id
    have hld := lb.load dsMsg szMsg (by rw [HMV.out]; rfl)
    rw [Array.toArray_toList] at hld
    rw [HMV.out] at lb
    exact ⟨lb.cell (j := 0) rfl, lb.cell (j := 6) rfl, hld, HS.out z (k0.trans kz (fun _ _ e => e))⟩
  refine wt1_region ⟨by kernel_rfl, by kernel_rfl, by kernel_rfl, by kernel_rfl, by kernel_rfl, by kernel_rfl, by kernel_rfl, by kernel_rfl, by kernel_rfl, by kernel_rfl, by kernel_rfl, by kernel_rfl, by kernel_rfl, by kernel_rfl, by kernel_rfl, by kernel_rfl, by kernel_rfl, by kernel_rfl, by kernel_rfl, by kernel_rfl, by kernel_rfl, by kernel_rfl, by kernel_rfl, by kernel_rfl, by kernel_rfl, by kernel_rfl, by kernel_rfl, by kernel_rfl, by kernel_rfl, by kernel_rfl, by kernel_rfl, by kernel_rfl, by kernel_rfl, by kernel_rfl⟩ sp bx t i G G N N (some ⟨B i, 0, none⟩) bl (.slice q2 G c2) mv (fun d _ _ _ _ h => by cases d <;> exact h) (by rfl) (by rfl) (by rfl) (HSS.out _ kd) (fun z => Kp (fun _ => False) w z) ((HL.out _ (k0.trans kd (fun _ _ e => e))).mono ?_) ?_
  · rintro e z ⟨rfl, kz⟩
    have k1 := kd.trans kz (fun _ _ e => e)
    exact ⟨rfl, HSS.out z k1, k0.trans k1 (fun _ _ e => e)⟩
  intro z hT
  simp only [Act.put, List.setIfInBounds_toArray, List.set_cons_succ, List.set_cons_zero]
  have HT : Hid (Kp (fun _ => False) w z) := hT
  clear hT HSS kd HS HL
  go_wp2
  go_ret
  exact ⟨rfl, HT.out⟩

set_option maxRecDepth 100000 in
set_option maxHeartbeats 1600000 in
theorem refused_ok {w : World} {base sp : Nat} {bl : Int} {G : Nat} {zs : List Int} {t : Nat} {B : Nat → Nat} {N : Nat} {X : Nat → Nat → Nat} (h : Sto w base sp bl G zs t B N X) (hN : 1 ≤ N) (src : Int) (i : Nat) (ok : Bool) (bv : Value) (hi : i < zs.length) (hsrc : src = zs[i]) :
    Calls Tryd.prog 103 #[.pointer (some ⟨sp, 0, none⟩), .agg (msgF 11 src bl (i : Int) ok bv)] w fun e w' => e = .returned (.bool (!ok)) ∧ Kp (fun _ => False) w w' := by
  have HW : Hid (∀ u, Kp (fun _ => False) w u → Calls _ _ _ u _) := fun u k => waits_yes (h.keep k (fun _ _ => id)) hN src i ok bv hi hsrc
  have k0 : Kp (fun _ => False) w (w.alloc (.cells (msgF 11 src bl (i : Int) ok bv) 45)) := (Kp.refl _ _).alloc _
  have HB : Hid (Lv (w.alloc (.cells (msgF 11 src bl (i : Int) ok bv) 45)) w.heap.size ((msgF 11 src bl (i : Int) ok bv)).toList) := Lv.new w _ _
  obtain ⟨mv, hmv⟩ : ∃ mv : Array Value, mv = (msgF 11 src bl (i : Int) ok bv) := ⟨_, rfl⟩
  have HMV : Hid (mv = (msgF 11 src bl (i : Int) ok bv)) := hmv
  rw [← hmv] at HB k0 HW ⊢
  clear h hN hi hsrc hmv
  go_enter Tryd.func103, Tryd.ntmps103
  go_wp2_with (first
    | (refine wpList_load_all rfl 45 _ rfl 24 w.heap.size mv.toList rfl HB.out dsMsg szMsg (by rw [HMV.out]; rfl) ?_; rw [Array.toArray_toList])
    | (go_at_call 97; refine (HW.out _ k0).mono ?_; rintro e w1 ⟨rfl, k1⟩; have x9 : w1.cell? ⟨w.heap.size, 9, none⟩ = some (.bool ok) := (by have lb := HB.out.keep k1 id; rw [HMV.out] at lb; exact lb.cell (j := 9) rfl)))
  go_ret
  exact ⟨rfl, k0.trans k1 (fun _ _ e => e)⟩

set_option maxRecDepth 100000 in
set_option maxHeartbeats 1600000 in
theorem onStored_no {w : World} {base c sp : Nat} {self aid now : Int} {cm : Cs0} {cv wh ft : Value} {bl : Int} {G : Nat} {zs : List Int} {t : Nat} {B : Nat → Nat} {N : Nat} {X : Nat → Nat → Nat} (hc : Lv w c (callA self aid now cm cv false wh (.pointer (some ⟨sp, 0, none⟩)) ft)) (h : Sto w base sp bl G zs t B N X) (hN : 1 ≤ N) (src : Int) (i : Nat) (bv : Value) (hi : i < zs.length) (hsrc : src = zs[i]) :
    Calls Tryd.prog 76 #[.pointer (some ⟨c, 0, none⟩), .agg (msgF 11 src bl (i : Int) false bv)] w fun e w' => ∃ g, e = .returned (.slice (some ⟨g, 0, none⟩) 1 1) ∧ w.heap.size ≤ g ∧ Kp (fun b => b = c) w w' ∧ Lv w' c (callA self aid now cm cv true (.slice none 0 0) (.pointer none) (.pointer none)) ∧ Lv w' g [.int .i64 aid, .int .i64 5, .slice none 0 0] := by
  have HRf : Hid (∀ u, Kp (fun _ => False) w u → Calls Tryd.prog 103 #[.pointer (some ⟨sp, 0, none⟩), .agg (msgF 11 src bl (i : Int) false bv)] u fun e w' => e = .returned (.bool true) ∧ Kp (fun _ => False) u w') := fun u k => refused_ok (h.keep k (fun _ _ => id)) hN src i false bv hi hsrc
  have HT : Hid (∀ u, Kp (fun _ => False) w u → Calls _ _ _ u _) := fun u k => tell_ok (hc.keep k id) 5 none 0 0
  have HC : Hid (∀ z, Kp (fun _ => False) w z → z.cell? ⟨c, 17, none⟩ = some (.pointer (some ⟨sp, 0, none⟩))) := fun z k => (hc.keep k id).cell (j := 17) rfl
  have k0 : Kp (fun _ => False) w (w.alloc (.cells (msgF 11 src bl (i : Int) false bv) 45)) := (Kp.refl _ _).alloc _
  have HB : Hid (Lv (w.alloc (.cells (msgF 11 src bl (i : Int) false bv) 45)) w.heap.size (msgF 11 src bl (i : Int) false bv).toList) := Lv.new w _ _
  obtain ⟨mv, hmv⟩ : ∃ mv : Array Value, mv = msgF 11 src bl (i : Int) false bv := ⟨_, rfl⟩
  have HMV : Hid (mv = msgF 11 src bl (i : Int) false bv) := hmv
  rw [← hmv] at HB k0 HRf ⊢
  clear h hN hi hsrc hmv hc
  go_enter Tryd.func76, Tryd.ntmps76
  go_wp2
  obtain ⟨u, hu⟩ : ∃ x, x = w.alloc (.cells mv 45) := ⟨_, rfl⟩
  obtain ⟨bx, hbx⟩ : ∃ x, x = w.heap.size := ⟨_, rfl⟩
  rw [← hu, ← hbx] at HB
  rw [← hu] at k0
  rw [← hu, ← hbx]
  clear hu hbx
  have kd : Kp (fun _ => False) u u.drew := (Kp.refl _ _).drew
  have HSS : Hid (∀ z, Kp (fun _ => False) u z → z.cell? ⟨c, 17, none⟩ = some (.pointer (some ⟨sp, 0, none⟩)) ∧ (loadVar 45 ⟨bx, 0, none⟩).run Tryd.prog z = .ok (.agg mv) z) := fun z kz => by
    have hld := (HB.out.keep kz id).load dsMsg szMsg (by rw [HMV.out]; rfl)
    rw [Array.toArray_toList] at hld
    exact ⟨HC.out z (k0.trans kz (fun _ _ e => e)), hld⟩
  refine on1_region ⟨by kernel_rfl, by kernel_rfl, by kernel_rfl, by kernel_rfl, by kernel_rfl, by kernel_rfl, by kernel_rfl, by kernel_rfl, by kernel_rfl, by kernel_rfl, by kernel_rfl, by kernel_rfl⟩ c bx sp mv true (fun d _ _ _ _ h => by cases d <;> exact h) (by rfl) (by rfl) (by rfl) (HSS.out _ kd) (fun z => Kp (fun _ => False) w z) ((HRf.out _ (k0.trans kd (fun _ _ e => e))).mono ?_) ?_
  · rintro e z ⟨rfl, kz⟩
    have k1 := kd.trans kz (fun _ _ e => e)
    exact ⟨rfl, HSS.out z k1, k0.trans k1 (fun _ _ e => e)⟩
  intro z hT
  simp only [Act.put, List.setIfInBounds_toArray, List.set_cons_succ, List.set_cons_zero]
  have HZ : Hid (Kp (fun _ => False) w z) := hT
  clear hT HSS kd HC HRf
  go_wp2_with (go_at_call 81; refine (HT.out _ HZ.out).mono ?_; rintro e w3 ⟨g, rfl, hg, k3, l3, lg⟩)
  go_ret
  refine ⟨g, rfl, ?_, (HZ.out.mono (fun _ _ e => e.elim)).trans k3 (fun _ _ e => e), l3, lg⟩
  have := HZ.out.size
  omega

set_option maxRecDepth 100000 in
set_option maxHeartbeats 1600000 in
theorem on_refused {w : World} {base c sp : Nat} {self aid now : Int} {cm : Cs0} {cv wh ft : Value} {bl : Int} {G : Nat} {zs : List Int} {t : Nat} {B : Nat → Nat} {N : Nat} {X : Nat → Nat → Nat} (hc : Lv w c (callA self aid now cm cv false wh (.pointer (some ⟨sp, 0, none⟩)) ft)) (hid : 0 < cm.id) (h : Sto w base sp bl G zs t B N X) (hN : 1 ≤ N) (src : Int) (i : Nat) (bv tm : Value) (hi : i < zs.length) (hsrc : src = zs[i]) :
    Calls Tryd.prog 36 #[.pointer (some ⟨c, 0, none⟩), .agg (msgF 11 src bl (i : Int) false bv), tm] w fun e w' => ∃ g, e = .returned (.slice (some ⟨g, 0, none⟩) 1 1) ∧ w.heap.size ≤ g ∧ Kp (fun b => b = c) w w' ∧ Lv w' c (callA self aid now cm cv true (.slice none 0 0) (.pointer none) (.pointer none)) ∧ Lv w' g [.int .i64 aid, .int .i64 5, .slice none 0 0] := by
  have HOp : Hid (∀ u, Kp (fun _ => False) w u → Calls Tryd.prog 75 #[.pointer (some ⟨c, 0, none⟩)] u fun e w' => e = .returned (.bool true) ∧ w' = u) := fun u k => copen c cm.id false u ((hc.keep k id).cell (j := 3) rfl) hid ((hc.keep k id).cell (j := 15) rfl)
  have HPl : Hid (∀ u, Kp (fun _ => False) w u → Calls _ _ _ u _) := fun u k => placed_yes c 16 sp u ((hc.keep k id).cell (j := 17) rfl)
  have HSt : Hid (∀ u, Kp (fun _ => False) w u → Calls _ _ _ u _) := fun u k => onStored_no (hc.keep k id) (h.keep k (fun _ _ => id)) hN src i bv hi hsrc
  have k0 : Kp (fun _ => False) w (w.alloc (.cells (msgF 11 src bl (i : Int) false bv) 45)) := (Kp.refl _ _).alloc _
  have HB : Hid (Lv (w.alloc (.cells (msgF 11 src bl (i : Int) false bv) 45)) w.heap.size (msgF 11 src bl (i : Int) false bv).toList) := Lv.new w _ _
  obtain ⟨mv, hmv⟩ : ∃ mv : Array Value, mv = msgF 11 src bl (i : Int) false bv := ⟨_, rfl⟩
  have HMV : Hid (mv = msgF 11 src bl (i : Int) false bv) := hmv
  rw [← hmv] at HB k0 HSt ⊢
  clear h hN hi hsrc hmv hc hid
  go_enter Tryd.func36, Tryd.ntmps36
  go_wp2_with (first
    | (go_at_call 75; refine (HOp.out _ k0).mono ?_; rintro e w1 ⟨rfl, hw1⟩; obtain rfl := hw1.symm)
    | (go_at_call 72; refine (HPl.out _ k0).mono ?_; rintro e w1 ⟨rfl, hw1⟩; obtain rfl := hw1.symm)
    | (refine wpList_load_all rfl 45 _ rfl 24 w.heap.size mv.toList rfl HB.out dsMsg szMsg (by rw [HMV.out]; rfl) ?_; rw [Array.toArray_toList])
    | (go_at_call 76; refine (HSt.out _ k0).mono ?_; rintro e w3 ⟨g, rfl, hg, k3, l3, lg⟩))
  go_ret
  refine ⟨g, rfl, ?_, (k0.mono (fun _ _ e => e.elim)).trans k3 (fun _ _ e => e), l3, lg⟩
  have := k0.size
  omega
end Go.Proofs.YtmncocmeafcpfaaDoor
