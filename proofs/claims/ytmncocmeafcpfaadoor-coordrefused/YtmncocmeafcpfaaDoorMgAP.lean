/- Texts of this proof, joined: Zi, Zk, Yg, Yh. -/
import Derived.Test.YtmncocmeafcpfaaDoorMgAO
import Derived.Test.YtmncocmeafcpfaaDoorMgAI
import Derived.ProofKit
import Derived.ChangeOld
import Derived.HandedShaped
import Derived.SizedLaws
import Derived.Deep.RegionHeld3
import Derived.Deep.RegionHeldLaw
import Derived.Test.YtmncocmeafcpfaaDoorMgAK
/- A put whose shard is refused: shards.lies, waits, Refused, onStored, On. -/
namespace Go.Proofs.YtmncocmeafcpfaaDoor
set_option linter.unusedVariables false
set_option linter.unusedSimpArgs false
open Go.RowKit Go.Deep

set_option maxRecDepth 100000 in
set_option maxHeartbeats 1600000 in
theorem lies_yes (kind src bl : Int) (i G c : Nat) (ok : Bool) (bv : Value) (q : Option Addr) (Y : Nat → Prop) (zs : List Int) (w : World) (hf : Fl w Y q (zs.map encI)) (hi : i < zs.length) (hG : G = zs.length) (hsrc : src = zs[i]) :
    Calls Tryd.prog 96 #[.agg (msgF kind src bl (i : Int) ok bv), .int .i64 bl, .slice q G c] w fun e w' => e = .returned (.bool true) ∧ Kp (fun _ => False) w w' := by
  have hl : Lv (w.alloc (.cells (msgF kind src bl (i : Int) ok bv) 45)) w.heap.size (msgF kind src bl (i : Int) ok bv).toList := Lv.new w _ _
  have k0 : Kp (fun _ => False) w (w.alloc (.cells (msgF kind src bl (i : Int) ok bv) 45)) := (Kp.refl _ _).alloc _
  obtain ⟨b, o, rfl, _, e1⟩ := (hf.keep k0 (fun _ _ => id)) i (encI src) (by rw [List.getElem?_map, List.getElem?_eq_getElem hi, hsrc]; rfl)
  have x1 := hl.cell (j := 1) rfl
  have x5 := hl.cell (j := 5) rfl
  have x6 := hl.cell (j := 6) rfl
  have h0 : (i : Int) ≥ 0 := by omega
  have h1 : (i : Int) < (G : Int) := by omega
  clear hf hl hi hG hsrc
  obtain ⟨u, hu⟩ : ∃ x, x = w.alloc (.cells (msgF kind src bl (i : Int) ok bv) 45) := ⟨_, rfl⟩
  have e0 : w.alloc (.cells (msgF kind src bl (i : Int) ok bv) 45) = u := hu.symm
  rw [e0] at x1 x5 x6 e1 k0
  clear hu
  go_enter Tryd.func96, Tryd.ntmps96
  go_wp2
  try rw [e0]
  clear e0
  go_quiet (fail)
  go_wp2
  go_ret
  exact ⟨rfl, k0.drewN _⟩
-- behind lies_yes
set_option maxRecDepth 100000 in
set_option maxHeartbeats 3200000 in
theorem waits_yes {w : World} {base sp : Nat} {bl : Int} {G : Nat} {zs : List Int} {t : Nat} {B : Nat → Nat} {N : Nat} {X : Nat → Nat → Nat} (h : Sto w base sp bl G zs t B N X) (hN : 1 ≤ N) (src : Int) (i : Nat) (ok : Bool) (bv : Value) (hi : i < zs.length) (hsrc : src = zs[i]) :
    Calls Tryd.prog 97 #[.pointer (some ⟨sp, 0, none⟩), .agg (msgF 11 src bl (i : Int) ok bv)] w fun e w' => e = .returned (.bool true) ∧ Kp (fun _ => False) w w' := by
  obtain ⟨q2, c2, ls, hf⟩ := h.s
  have hG := h.g
  have ht : w.cell? ⟨t, i, none⟩ = some (.slice (some ⟨B i, 0, none⟩) N N) := h.m.top.cell (by omega)
  have k0 : Kp (fun _ => False) w (w.alloc (.cells (msgF 11 src bl (i : Int) ok bv) 45)) := (Kp.refl _ _).alloc _
  have HB : Hid (Lv (w.alloc (.cells (msgF 11 src bl (i : Int) ok bv) 45)) w.heap.size ((msgF 11 src bl (i : Int) ok bv)).toList) := Lv.new w _ _
  have HL : Hid (∀ u, Kp (fun _ => False) w u → Calls _ _ _ u _) := fun u k => lies_yes 11 src bl i G c2 ok bv q2 _ zs u (hf.keep k (fun _ _ => id)) hi hG hsrc
  have HS : Hid (∀ z, Kp (fun _ => False) w z → z.cell? ⟨sp, 0, none⟩ = some (.int .i64 bl) ∧ z.cell? ⟨sp, 1, none⟩ = some (.slice q2 G c2) ∧ z.cell? ⟨sp, 2, none⟩ = some (.slice (some ⟨t, 0, none⟩) G G) ∧ z.cell? ⟨t, i, none⟩ = some (.slice (some ⟨B i, 0, none⟩) N N) ∧ (i : Int) < (G : Int) ∧ (0 : Int) < (N : Int)) := fun z k => ⟨(ls.keep k id).cell (j := 0) rfl, (ls.keep k id).cell (j := 1) rfl, (ls.keep k id).cell (j := 2) rfl, k.cellv ht id, by omega, by omega⟩
  obtain ⟨mv, hmv⟩ : ∃ mv : Array Value, mv = (msgF 11 src bl (i : Int) ok bv) := ⟨_, rfl⟩
  have HMV : Hid (mv = (msgF 11 src bl (i : Int) ok bv)) := hmv
  rw [← hmv] at HB k0 HL ⊢
  clear h ls hf hG ht hN hi hsrc hmv
  go_enter Tryd.func97, Tryd.ntmps97
  go_wp2
  obtain ⟨u, hu⟩ : ∃ x, x = w.alloc (.cells mv 45) := ⟨_, rfl⟩
  obtain ⟨bx, hbx⟩ : ∃ x, x = w.heap.size := ⟨_, rfl⟩
  rw [← hu, ← hbx] at HB
  rw [← hu] at k0
  rw [← hu, ← hbx]
  clear hu hbx
  have kd : Kp (fun _ => False) u u.drew := (Kp.refl _ _).drew
  have HSS : Hid (∀ z, Kp (fun _ => False) u z → z.cell? ⟨bx, 0, none⟩ = some (.int .i64 11) ∧ z.cell? ⟨bx, 6, none⟩ = some (.int .i64 (i : Int)) ∧ (loadVar 45 ⟨bx, 0, none⟩).run Tryd.prog z = .ok (.agg mv) z ∧ z.cell? ⟨sp, 0, none⟩ = some (.int .i64 bl) ∧ z.cell? ⟨sp, 1, none⟩ = some (.slice q2 G c2) ∧ z.cell? ⟨sp, 2, none⟩ = some (.slice (some ⟨t, 0, none⟩) G G) ∧ z.cell? ⟨t, i, none⟩ = some (.slice (some ⟨B i, 0, none⟩) N N) ∧ (i : Int) < (G : Int) ∧ (0 : Int) < (N : Int)) := fun z kz => by
    have lb := HB.out.keep kz id
    have hld := lb.load dsMsg szMsg (by rw [HMV.out]; rfl)
    rw [Array.toArray_toList] at hld
    rw [HMV.out] at lb
    exact ⟨lb.cell (j := 0) rfl, lb.cell (j := 6) rfl, hld, HS.out z (k0.trans kz (fun _ _ e => e))⟩
  refine wt1_region ⟨by kernel_rfl, by kernel_rfl, by kernel_rfl, by kernel_rfl, by kernel_rfl, by kernel_rfl, by kernel_rfl, by kernel_rfl, by kernel_rfl, by kernel_rfl, by kernel_rfl, by kernel_rfl, by kernel_rfl, by kernel_rfl, by kernel_rfl, by kernel_rfl, by kernel_rfl, by kernel_rfl, by kernel_rfl, by kernel_rfl, by kernel_rfl, by kernel_rfl, by kernel_rfl, by kernel_rfl, by kernel_rfl, by kernel_rfl, by kernel_rfl, by kernel_rfl, by kernel_rfl, by kernel_rfl, by kernel_rfl, by kernel_rfl, by kernel_rfl, by kernel_rfl⟩ sp bx t i G G N N (some ⟨B i, 0, none⟩) bl (.slice q2 G c2) mv (fun d _ _ _ _ h => by cases d <;> exact h) (by rfl) (by rfl) (by rfl) (HSS.out _ kd) (fun z => Kp (fun _ => False) w z) ((HL.out _ (k0.trans kd (fun _ _ e => e))).mono ?_) ?_
  · rintro e z ⟨rfl, kz⟩
    have k1 := kd.trans kz (fun _ _ e => e)
    exact ⟨rfl, HSS.out z k1, k0.trans k1 (fun _ _ e => e)⟩
  intro z hT
  simp only [Act.put, List.setIfInBounds_toArray, List.set_cons_succ, List.set_cons_zero]
  have HT : Hid (Kp (fun _ => False) w z) := hT
  clear hT HSS kd HS HL
  go_wp2
  go_ret
  exact ⟨rfl, HT.out⟩

set_option maxRecDepth 100000 in
set_option maxHeartbeats 1600000 in
theorem refused_ok {w : World} {base sp : Nat} {bl : Int} {G : Nat} {zs : List Int} {t : Nat} {B : Nat → Nat} {N : Nat} {X : Nat → Nat → Nat} (h : Sto w base sp bl G zs t B N X) (hN : 1 ≤ N) (src : Int) (i : Nat) (ok : Bool) (bv : Value) (hi : i < zs.length) (hsrc : src = zs[i]) :
    Calls Tryd.prog 103 #[.pointer (some ⟨sp, 0, none⟩), .agg (msgF 11 src bl (i : Int) ok bv)] w fun e w' => e = .returned (.bool (!ok)) ∧ Kp (fun _ => False) w w' := by
  have HW : Hid (∀ u, Kp (fun _ => False) w u → Calls _ _ _ u _) := fun u k => waits_yes (h.keep k (fun _ _ => id)) hN src i ok bv hi hsrc
  have k0 : Kp (fun _ => False) w (w.alloc (.cells (msgF 11 src bl (i : Int) ok bv) 45)) := (Kp.refl _ _).alloc _
  have HB : Hid (Lv (w.alloc (.cells (msgF 11 src bl (i : Int) ok bv) 45)) w.heap.size ((msgF 11 src bl (i : Int) ok bv)).toList) := Lv.new w _ _
  obtain ⟨mv, hmv⟩ : ∃ mv : Array Value, mv = (msgF 11 src bl (i : Int) ok bv) := ⟨_, rfl⟩
  have HMV : Hid (mv = (msgF 11 src bl (i : Int) ok bv)) := hmv
  rw [← hmv] at HB k0 HW ⊢
  clear h hN hi hsrc hmv
  go_enter Tryd.func103, Tryd.ntmps103
  go_wp2_with (first
    | (refine wpList_load_all rfl 45 _ rfl 24 w.heap.size mv.toList rfl HB.out dsMsg szMsg (by rw [HMV.out]; rfl) ?_; rw [Array.toArray_toList])
    | (go_at_call 97; refine (HW.out _ k0).mono ?_; rintro e w1 ⟨rfl, k1⟩; have x9 : w1.cell? ⟨w.heap.size, 9, none⟩ = some (.bool ok) := (by have lb := HB.out.keep k1 id; rw [HMV.out] at lb; exact lb.cell (j := 9) rfl)))
  go_ret
  exact ⟨rfl, k0.trans k1 (fun _ _ e => e)⟩

set_option maxRecDepth 100000 in
set_option maxHeartbeats 1600000 in
theorem onStored_no {w : World} {base c sp : Nat} {self aid now : Int} {cm : Cs0} {cv wh ft : Value} {bl : Int} {G : Nat} {zs : List Int} {t : Nat} {B : Nat → Nat} {N : Nat} {X : Nat → Nat → Nat} (hc : Lv w c (callA self aid now cm cv false wh (.pointer (some ⟨sp, 0, none⟩)) ft)) (h : Sto w base sp bl G zs t B N X) (hN : 1 ≤ N) (src : Int) (i : Nat) (bv : Value) (hi : i < zs.length) (hsrc : src = zs[i]) :
    Calls Tryd.prog 76 #[.pointer (some ⟨c, 0, none⟩), .agg (msgF 11 src bl (i : Int) false bv)] w fun e w' => ∃ g, e = .returned (.slice (some ⟨g, 0, none⟩) 1 1) ∧ w.heap.size ≤ g ∧ Kp (fun b => b = c) w w' ∧ Lv w' c (callA self aid now cm cv true (.slice none 0 0) (.pointer none) (.pointer none)) ∧ Lv w' g [.int .i64 aid, .int .i64 5, .slice none 0 0] := by
  have HRf : Hid (∀ u, Kp (fun _ => False) w u → Calls Tryd.prog 103 #[.pointer (some ⟨sp, 0, none⟩), .agg (msgF 11 src bl (i : Int) false bv)] u fun e w' => e = .returned (.bool true) ∧ Kp (fun _ => False) u w') := fun u k => refused_ok (h.keep k (fun _ _ => id)) hN src i false bv hi hsrc
  have HT : Hid (∀ u, Kp (fun _ => False) w u → Calls _ _ _ u _) := fun u k => tell_ok (hc.keep k id) 5 none 0 0
  have HC : Hid (∀ z, Kp (fun _ => False) w z → z.cell? ⟨c, 17, none⟩ = some (.pointer (some ⟨sp, 0, none⟩))) := fun z k => (hc.keep k id).cell (j := 17) rfl
  have k0 : Kp (fun _ => False) w (w.alloc (.cells (msgF 11 src bl (i : Int) false bv) 45)) := (Kp.refl _ _).alloc _
  have HB : Hid (Lv (w.alloc (.cells (msgF 11 src bl (i : Int) false bv) 45)) w.heap.size (msgF 11 src bl (i : Int) false bv).toList) := Lv.new w _ _
  obtain ⟨mv, hmv⟩ : ∃ mv : Array Value, mv = msgF 11 src bl (i : Int) false bv := ⟨_, rfl⟩
  have HMV : Hid (mv = msgF 11 src bl (i : Int) false bv) := hmv
  rw [← hmv] at HB k0 HRf ⊢
  clear h hN hi hsrc hmv hc
  go_enter Tryd.func76, Tryd.ntmps76
  go_wp2
  obtain ⟨u, hu⟩ : ∃ x, x = w.alloc (.cells mv 45) := ⟨_, rfl⟩
  obtain ⟨bx, hbx⟩ : ∃ x, x = w.heap.size := ⟨_, rfl⟩
  rw [← hu, ← hbx] at HB
  rw [← hu] at k0
  rw [← hu, ← hbx]
  clear hu hbx
  have kd : Kp (fun _ => False) u u.drew := (Kp.refl _ _).drew
  have HSS : Hid (∀ z, Kp (fun _ => False) u z → z.cell? ⟨c, 17, none⟩ = some (.pointer (some ⟨sp, 0, none⟩)) ∧ (loadVar 45 ⟨bx, 0, none⟩).run Tryd.prog z = .ok (.agg mv) z) := fun z kz => by
    have hld := (HB.out.keep kz id).load dsMsg szMsg (by rw [HMV.out]; rfl)
    rw [Array.toArray_toList] at hld
    exact ⟨HC.out z (k0.trans kz (fun _ _ e => e)), hld⟩
  refine on1_region ⟨by kernel_rfl, by kernel_rfl, by kernel_rfl, by kernel_rfl, by kernel_rfl, by kernel_rfl, by kernel_rfl, by kernel_rfl, by kernel_rfl, by kernel_rfl, by kernel_rfl, by kernel_rfl⟩ c bx sp mv true (fun d _ _ _ _ h => by cases d <;> exact h) (by rfl) (by rfl) (by rfl) (HSS.out _ kd) (fun z => Kp (fun _ => False) w z) ((HRf.out _ (k0.trans kd (fun _ _ e => e))).mono ?_) ?_
  · rintro e z ⟨rfl, kz⟩
    have k1 := kd.trans kz (fun _ _ e => e)
    exact ⟨rfl, HSS.out z k1, k0.trans k1 (fun _ _ e => e)⟩
  intro z hT
  simp only [Act.put, List.setIfInBounds_toArray, List.set_cons_succ, List.set_cons_zero]
  have HZ : Hid (Kp (fun _ => False) w z) := hT
  clear hT HSS kd HC HRf
  go_wp2_with (go_at_call 81; refine (HT.out _ HZ.out).mono ?_; rintro e w3 ⟨g, rfl, hg, k3, l3, lg⟩)
  go_ret
  refine ⟨g, rfl, ?_, (HZ.out.mono (fun _ _ e => e.elim)).trans k3 (fun _ _ e => e), l3, lg⟩
  have := HZ.out.size
  omega

set_option maxRecDepth 100000 in
set_option maxHeartbeats 1600000 in
theorem on_refused {w : World} {base c sp : Nat} {self aid now : Int} {cm : Cs0} {cv wh ft : Value} {bl : Int} {G : Nat} {zs : List Int} {t : Nat} {B : Nat → Nat} {N : Nat} {X : Nat → Nat → Nat} (hc : Lv w c (callA self aid now cm cv false wh (.pointer (some ⟨sp, 0, none⟩)) ft)) (hid : 0 < cm.id) (h : Sto w base sp bl G zs t B N X) (hN : 1 ≤ N) (src : Int) (i : Nat) (bv tm : Value) (hi : i < zs.length) (hsrc : src = zs[i]) :
    Calls Tryd.prog 36 #[.pointer (some ⟨c, 0, none⟩), .agg (msgF 11 src bl (i : Int) false bv), tm] w fun e w' => ∃ g, e = .returned (.slice (some ⟨g, 0, none⟩) 1 1) ∧ w.heap.size ≤ g ∧ Kp (fun b => b = c) w w' ∧ Lv w' c (callA self aid now cm cv true (.slice none 0 0) (.pointer none) (.pointer none)) ∧ Lv w' g [.int .i64 aid, .int .i64 5, .slice none 0 0] := by
  have HOp : Hid (∀ u, Kp (fun _ => False) w u → Calls Tryd.prog 75 #[.pointer (some ⟨c, 0, none⟩)] u fun e w' => e = .returned (.bool true) ∧ w' = u) := fun u k => copen c cm.id false u ((hc.keep k id).cell (j := 3) rfl) hid ((hc.keep k id).cell (j := 15) rfl)
  have HPl : Hid (∀ u, Kp (fun _ => False) w u → Calls _ _ _ u _) := fun u k => placed_yes c 16 sp u ((hc.keep k id).cell (j := 17) rfl)
  have HSt : Hid (∀ u, Kp (fun _ => False) w u → Calls _ _ _ u _) := fun u k => onStored_no (hc.keep k id) (h.keep k (fun _ _ => id)) hN src i bv hi hsrc
  have k0 : Kp (fun _ => False) w (w.alloc (.cells (msgF 11 src bl (i : Int) false bv) 45)) := (Kp.refl _ _).alloc _
  have HB : Hid (Lv (w.alloc (.cells (msgF 11 src bl (i : Int) false bv) 45)) w.heap.size (msgF 11 src bl (i : Int) false bv).toList) := Lv.new w _ _
  obtain ⟨mv, hmv⟩ : ∃ mv : Array Value, mv = msgF 11 src bl (i : Int) false bv := ⟨_, rfl⟩
  have HMV : Hid (mv = msgF 11 src bl (i : Int) false bv) := hmv
  rw [← hmv] at HB k0 HSt ⊢
  clear h hN hi hsrc hmv hc hid
  go_enter Tryd.func36, Tryd.ntmps36
  go_wp2_with (first
    | (go_at_call 75; refine (HOp.out _ k0).mono ?_; rintro e w1 ⟨rfl, hw1⟩; obtain rfl := hw1.symm)
    | (go_at_call 72; refine (HPl.out _ k0).mono ?_; rintro e w1 ⟨rfl, hw1⟩; obtain rfl := hw1.symm)
    | (refine wpList_load_all rfl 45 _ rfl 24 w.heap.size mv.toList rfl HB.out dsMsg szMsg (by rw [HMV.out]; rfl) ?_; rw [Array.toArray_toList])
    | (go_at_call 76; refine (HSt.out _ k0).mono ?_; rintro e w3 ⟨g, rfl, hg, k3, l3, lg⟩))
  go_ret
  refine ⟨g, rfl, ?_, (k0.mono (fun _ _ e => e.elim)).trans k3 (fun _ _ e => e), l3, lg⟩
  have := k0.size
  omega
end Go.Proofs.YtmncocmeafcpfaaDoor

/- How an ask comes in. -/
namespace Go.Proofs.YtmncocmeafcpfaaDoor
set_option linter.unusedVariables false
open Go.ChangeShapes Go.WideShapes Go.ChangeAt Go.WideMaps Go.WideElems Go.RowKit
variable {H : Type} {enc : TypeId × Value → H} {W : World}

theorem cellsI19 : Tryd.prog.cellsOf 3 = 1 := by kernel_rfl
theorem cellsS19 : Tryd.prog.cellsOf 9 = 1 := by kernel_rfl
theorem cellsB19 : Tryd.prog.cellsOf 22 = 1 := by kernel_rfl
/-- what is known of an ask that comes in -/
def AskIn (cs : Array Value) : Prop := ∃ (aid : Int) (x1 x2 x3 : Value), cs = #[.int .i64 aid, x1, x2, x3]
set_option maxRecDepth 100000 in
theorem ask_of_trod {cs : Array Value} {d : DataW H} {p : List MemPlace} (hs : cs.size = 4) (h : DataW.Trod enc Tryd.prog W 0 (fun _ => true) true 81 (.agg cs) d p) : AskIn cs := by
  obtain ⟨k, hk⟩ := h
  have hk' : DataW.trod enc Tryd.prog W 0 (fun _ => true) true k 81 cs.toList = some (d, p) := by simpa [Value.cells] using hk
  obtain ⟨xs, k', hk2, hxy, _, hxl, hfd⟩ := DataW.trod_struct Tryd.underlying81 hk'
  obtain ⟨l, hl⟩ : ∃ l, l = cs.toList := ⟨_, rfl⟩
  have hll : l.length = 4 := by rw [hl]; simpa using hs
  rw [← hl] at hfd
  match l, hll with
  | [v0, v1, v2, v3], _ =>
    match xs, hxl with
    | [y0, y1, y2, y3], _ =>
      have g0 := hfd 0 _ rfl
      simp [cellsI19] at g0
      obtain ⟨z0, e0, _, _⟩ := DataW.trod_int Tryd.underlying3 g0
      simp only [List.cons.injEq, and_true] at e0
      subst e0
      exact ⟨z0, v1, v2, v3, Array.toList_inj.1 hl.symm⟩
end Go.Proofs.YtmncocmeafcpfaaDoor

/- Fetches: On of the one shard. -/
namespace Go.Proofs.YtmncocmeafcpfaaDoor
set_option linter.unusedVariables false
set_option linter.unusedSimpArgs false
open Go.RowKit Go.Deep

set_option maxRecDepth 100000 in
set_option maxHeartbeats 1600000 in
theorem lies_ok (q oq cq : Nat) (bv : Value) (w : World) (hq : w.cell? ⟨q, oq, none⟩ = some (.int .i64 3)) : Calls Tryd.prog 96 #[.agg (msgF 13 3 9 0 true bv), .int .i64 9, .slice (some ⟨q, oq, none⟩) 1 cq] w fun e w' => e = .returned (.bool true) ∧ Kp (fun _ => False) w w' := by
  have hl : Lv (w.alloc (.cells (msgF 13 3 9 0 true bv) 45)) w.heap.size (msgF 13 3 9 0 true bv).toList := Lv.new w _ _
  have k0 : Kp (fun _ => False) w (w.alloc (.cells (msgF 13 3 9 0 true bv) 45)) := (Kp.refl _ _).alloc _
  have q0 := k0.cellv hq id
  have x1 := hl.cell (j := 1) rfl
  have x5 := hl.cell (j := 5) rfl
  have x6 := hl.cell (j := 6) rfl
  clear hl
  go_enter Tryd.func96, Tryd.ntmps96
  go_wp2
  go_quiet (fail)
  go_wp2
  go_ret
  exact ⟨rfl, k0.drewN _⟩

/-- a whole struct is loaded, at a step of a region that draws its order -/
theorem step_load_all {ops : Array Oper} {o : Oper} {a : Act} {K : Act → World → Prop} {Q : Exit → Act → World → Prop} {E : Prop} (w : World) (hgd : o.guard = none) (ty : TypeId) (x : Operand) (ho : o.op = .load ty x)
    (n g : Nat) (cs : List Value) (hx : a.eval x = .pointer (some ⟨g, 0, none⟩)) (hL : Lv w g cs) (hd : ∃ d, Tryd.prog.underlying ty = some d ∧ d.isRow = true)
    (hi : (Tryd.prog.info? ty).map (·.size) = some n) (hn : cs.length = n) (h : K (a.put o.dst (.agg cs.toArray)) w) :
    if Region.wanted o (yielded ops a.tmps) = true then Oper.wp Tryd.prog o a w K Q else E := by
  have hw : Region.wanted o (yielded ops a.tmps) = true := by simp [Region.wanted, hgd]
  rw [if_pos hw]
  have hr := hL.load hd hi hn
  have hrun : (execOp a.eval o).run Tryd.prog w = .ok (.value (.agg cs.toArray)) w := by
    unfold execOp
    simp only [ho, hx]
    simp [Instr.loadAt, Instr.sureAddr, hr]
  unfold Oper.wp
  rw [hrun]
  exact h

section
variable {w : World} {f q oq cq g : Nat}

set_option maxRecDepth 100000 in
set_option maxHeartbeats 1600000 in
theorem flength_ok (cv : Value) (k : Int) (h : Lv w f (fetA b95 (.slice (some ⟨q, oq, none⟩) 1 cq) cv k)) : Calls Tryd.prog 55 #[.pointer (some ⟨f, 0, none⟩)] w fun e w' => e = .returned (.int .i64 8) ∧ Kp (fun _ => False) w w' := by
  have H : Hid (∀ z, Calls Tryd.prog 95 #[code10, .int .i64 5] z _) := fun z => length10 z
  have c1 := h.cell (j := 1) rfl
  have c3 := h.cell (j := 3) rfl
  have c4 := h.cell (j := 4) rfl
  have HSw : Hid (∀ z, Kp (fun _ => False) w z → z.cell? ⟨f, 1, none⟩ = some (.int .i64 5) ∧ z.cell? ⟨f, 3, none⟩ = some (.int .i64 1) ∧ z.cell? ⟨f, 4, none⟩ = some (.int .i64 0)) := fun z k => ⟨k.cellv c1 id, k.cellv c3 id, k.cellv c4 id⟩
  have kd : Kp (fun _ => False) w w.drew := (Kp.refl _ _).drew
  clear h
  go_enter Tryd.func55, Tryd.ntmps55
  go_wp2
  go_region_held3 (fun z => z.cell? ⟨f, 1, none⟩ = some (.int .i64 5) ∧ z.cell? ⟨f, 3, none⟩ = some (.int .i64 1) ∧ z.cell? ⟨f, 4, none⟩ = some (.int .i64 0))
    (first
      | exact HSw.out _ kd
      | exact HSw.out _ k2)
    (first | (go_at_call 95; refine (H.out _).mono ?_; rintro e w2 ⟨rfl, kk⟩; have k2 := kd.trans kk (fun _ _ e => e)))
  go_wp2
  go_ret
  exact ⟨rfl, k2⟩
end
end Go.Proofs.YtmncocmeafcpfaaDoor

/- Drawn regions of fetches and movers (laid by scripts/mkyh.py). -/
namespace Go.Proofs.YtmncocmeafcpfaaDoor
set_option linter.unusedVariables false
set_option linter.unusedSimpArgs false
open Go.RowKit Go.Deep

theorem exec_load {ev : Operand → Value} {d : Option Tmp} {ty ty2 : TypeId} {x : Operand} {v : Value} {b : Addr} {z : World} (he : ev x = .pointer (some b)) (hr : (loadVar ty b).run Tryd.prog z = .ok v z) : (execOp ev ⟨d, Op.load ty x, ty2, "", #[], none⟩).run Tryd.prog z = .ok (.value v) z := by
  unfold execOp
  simp only [he]
  simp [Instr.loadAt, Instr.sureAddr, hr]

theorem fo3_0 (bx f g q oq cq : Nat) (mv : Array Value) (ev : Operand → Value) (z : World) (ec : ∀ c, ev (.const c) = c) (e3 : ev (.tmp 3) = .pointer (some ⟨bx, 0, none⟩)) (hS : (loadVar 45 ⟨bx, 0, none⟩).run Tryd.prog z = .ok (.agg mv) z ∧ z.cell? ⟨bx, 6, none⟩ = some (.int .i64 0) ∧ z.cell? ⟨f, 0, none⟩ = some (.int .i64 9) ∧ z.cell? ⟨f, 5, none⟩ = some (.slice (some ⟨q, oq, none⟩) 1 cq) ∧ z.cell? ⟨f, 6, none⟩ = some (.slice (some ⟨g, 0, none⟩) 1 1) ∧ z.cell? ⟨g, 0, none⟩ = some (.slice none 0 0)) : (execOp ev ⟨some 21, Op.load 45 (Operand.tmp 3), 45, "", #[], none⟩).run Tryd.prog z = .ok (.value (.agg mv)) z := by
  exact exec_load e3 hS.1
theorem fo3_1 (bx f g q oq cq : Nat) (mv : Array Value) (ev : Operand → Value) (z : World) (ec : ∀ c, ev (.const c) = c) (e0 : ev (.tmp 0) = .pointer (some ⟨f, 0, none⟩)) (hS : (loadVar 45 ⟨bx, 0, none⟩).run Tryd.prog z = .ok (.agg mv) z ∧ z.cell? ⟨bx, 6, none⟩ = some (.int .i64 0) ∧ z.cell? ⟨f, 0, none⟩ = some (.int .i64 9) ∧ z.cell? ⟨f, 5, none⟩ = some (.slice (some ⟨q, oq, none⟩) 1 cq) ∧ z.cell? ⟨f, 6, none⟩ = some (.slice (some ⟨g, 0, none⟩) 1 1) ∧ z.cell? ⟨g, 0, none⟩ = some (.slice none 0 0)) : (execOp ev ⟨some 22, Op.move (Operand.tmp 0), 58, "", #[], none⟩).run Tryd.prog z = .ok (.value (.pointer (some ⟨f, 0, none⟩))) z := by
  obtain ⟨sl, s6, s0, s5, s6f, sg⟩ := hS
  go_simp
theorem fo3_2 (bx f g q oq cq : Nat) (mv : Array Value) (ev : Operand → Value) (z : World) (ec : ∀ c, ev (.const c) = c) (e22 : ev (.tmp 22) = .pointer (some ⟨f, 0, none⟩)) (hS : (loadVar 45 ⟨bx, 0, none⟩).run Tryd.prog z = .ok (.agg mv) z ∧ z.cell? ⟨bx, 6, none⟩ = some (.int .i64 0) ∧ z.cell? ⟨f, 0, none⟩ = some (.int .i64 9) ∧ z.cell? ⟨f, 5, none⟩ = some (.slice (some ⟨q, oq, none⟩) 1 cq) ∧ z.cell? ⟨f, 6, none⟩ = some (.slice (some ⟨g, 0, none⟩) 1 1) ∧ z.cell? ⟨g, 0, none⟩ = some (.slice none 0 0)) : (execOp ev ⟨some 23, Op.nilCheck (Operand.tmp 22), 0, "", #[], none⟩).run Tryd.prog z = .ok (.value (.pointer (some ⟨f, 0, none⟩))) z := by
  obtain ⟨sl, s6, s0, s5, s6f, sg⟩ := hS
  go_simp
theorem fo3_3 (bx f g q oq cq : Nat) (mv : Array Value) (ev : Operand → Value) (z : World) (ec : ∀ c, ev (.const c) = c) (e23 : ev (.tmp 23) = .pointer (some ⟨f, 0, none⟩)) (hS : (loadVar 45 ⟨bx, 0, none⟩).run Tryd.prog z = .ok (.agg mv) z ∧ z.cell? ⟨bx, 6, none⟩ = some (.int .i64 0) ∧ z.cell? ⟨f, 0, none⟩ = some (.int .i64 9) ∧ z.cell? ⟨f, 5, none⟩ = some (.slice (some ⟨q, oq, none⟩) 1 cq) ∧ z.cell? ⟨f, 6, none⟩ = some (.slice (some ⟨g, 0, none⟩) 1 1) ∧ z.cell? ⟨g, 0, none⟩ = some (.slice none 0 0)) : (execOp ev ⟨some 24, Op.fieldAddr 143 (Operand.tmp 23) 0, 0, "", #[], none⟩).run Tryd.prog z = .ok (.value (.pointer (some ⟨f, 0, none⟩))) z := by
  obtain ⟨sl, s6, s0, s5, s6f, sg⟩ := hS
  go_simp
theorem fo3_4 (bx f g q oq cq : Nat) (mv : Array Value) (ev : Operand → Value) (z : World) (ec : ∀ c, ev (.const c) = c) (e24 : ev (.tmp 24) = .pointer (some ⟨f, 0, none⟩)) (hS : (loadVar 45 ⟨bx, 0, none⟩).run Tryd.prog z = .ok (.agg mv) z ∧ z.cell? ⟨bx, 6, none⟩ = some (.int .i64 0) ∧ z.cell? ⟨f, 0, none⟩ = some (.int .i64 9) ∧ z.cell? ⟨f, 5, none⟩ = some (.slice (some ⟨q, oq, none⟩) 1 cq) ∧ z.cell? ⟨f, 6, none⟩ = some (.slice (some ⟨g, 0, none⟩) 1 1) ∧ z.cell? ⟨g, 0, none⟩ = some (.slice none 0 0)) : (execOp ev ⟨some 25, Op.fieldAddr 33 (Operand.tmp 24) 0, 0, "", #[], none⟩).run Tryd.prog z = .ok (.value (.pointer (some ⟨f, 0, none⟩))) z := by
  obtain ⟨sl, s6, s0, s5, s6f, sg⟩ := hS
  go_simp
theorem fo3_5 (bx f g q oq cq : Nat) (mv : Array Value) (ev : Operand → Value) (z : World) (ec : ∀ c, ev (.const c) = c) (e25 : ev (.tmp 25) = .pointer (some ⟨f, 0, none⟩)) (hS : (loadVar 45 ⟨bx, 0, none⟩).run Tryd.prog z = .ok (.agg mv) z ∧ z.cell? ⟨bx, 6, none⟩ = some (.int .i64 0) ∧ z.cell? ⟨f, 0, none⟩ = some (.int .i64 9) ∧ z.cell? ⟨f, 5, none⟩ = some (.slice (some ⟨q, oq, none⟩) 1 cq) ∧ z.cell? ⟨f, 6, none⟩ = some (.slice (some ⟨g, 0, none⟩) 1 1) ∧ z.cell? ⟨g, 0, none⟩ = some (.slice none 0 0)) : (execOp ev ⟨some 26, Op.load 3 (Operand.tmp 25), 3, "", #[], none⟩).run Tryd.prog z = .ok (.value (.int .i64 9)) z := by
  obtain ⟨sl, s6, s0, s5, s6f, sg⟩ := hS
  go_simp
theorem fo3_6 (bx f g q oq cq : Nat) (mv : Array Value) (ev : Operand → Value) (z : World) (ec : ∀ c, ev (.const c) = c) (e0 : ev (.tmp 0) = .pointer (some ⟨f, 0, none⟩)) (hS : (loadVar 45 ⟨bx, 0, none⟩).run Tryd.prog z = .ok (.agg mv) z ∧ z.cell? ⟨bx, 6, none⟩ = some (.int .i64 0) ∧ z.cell? ⟨f, 0, none⟩ = some (.int .i64 9) ∧ z.cell? ⟨f, 5, none⟩ = some (.slice (some ⟨q, oq, none⟩) 1 cq) ∧ z.cell? ⟨f, 6, none⟩ = some (.slice (some ⟨g, 0, none⟩) 1 1) ∧ z.cell? ⟨g, 0, none⟩ = some (.slice none 0 0)) : (execOp ev ⟨some 27, Op.move (Operand.tmp 0), 58, "", #[], none⟩).run Tryd.prog z = .ok (.value (.pointer (some ⟨f, 0, none⟩))) z := by
  obtain ⟨sl, s6, s0, s5, s6f, sg⟩ := hS
  go_simp
theorem fo3_7 (bx f g q oq cq : Nat) (mv : Array Value) (ev : Operand → Value) (z : World) (ec : ∀ c, ev (.const c) = c) (e27 : ev (.tmp 27) = .pointer (some ⟨f, 0, none⟩)) (hS : (loadVar 45 ⟨bx, 0, none⟩).run Tryd.prog z = .ok (.agg mv) z ∧ z.cell? ⟨bx, 6, none⟩ = some (.int .i64 0) ∧ z.cell? ⟨f, 0, none⟩ = some (.int .i64 9) ∧ z.cell? ⟨f, 5, none⟩ = some (.slice (some ⟨q, oq, none⟩) 1 cq) ∧ z.cell? ⟨f, 6, none⟩ = some (.slice (some ⟨g, 0, none⟩) 1 1) ∧ z.cell? ⟨g, 0, none⟩ = some (.slice none 0 0)) : (execOp ev ⟨some 28, Op.nilCheck (Operand.tmp 27), 0, "", #[], none⟩).run Tryd.prog z = .ok (.value (.pointer (some ⟨f, 0, none⟩))) z := by
  obtain ⟨sl, s6, s0, s5, s6f, sg⟩ := hS
  go_simp
theorem fo3_8 (bx f g q oq cq : Nat) (mv : Array Value) (ev : Operand → Value) (z : World) (ec : ∀ c, ev (.const c) = c) (e28 : ev (.tmp 28) = .pointer (some ⟨f, 0, none⟩)) (hS : (loadVar 45 ⟨bx, 0, none⟩).run Tryd.prog z = .ok (.agg mv) z ∧ z.cell? ⟨bx, 6, none⟩ = some (.int .i64 0) ∧ z.cell? ⟨f, 0, none⟩ = some (.int .i64 9) ∧ z.cell? ⟨f, 5, none⟩ = some (.slice (some ⟨q, oq, none⟩) 1 cq) ∧ z.cell? ⟨f, 6, none⟩ = some (.slice (some ⟨g, 0, none⟩) 1 1) ∧ z.cell? ⟨g, 0, none⟩ = some (.slice none 0 0)) : (execOp ev ⟨some 29, Op.fieldAddr 143 (Operand.tmp 28) 0, 0, "", #[], none⟩).run Tryd.prog z = .ok (.value (.pointer (some ⟨f, 0, none⟩))) z := by
  obtain ⟨sl, s6, s0, s5, s6f, sg⟩ := hS
  go_simp
theorem fo3_9 (bx f g q oq cq : Nat) (mv : Array Value) (ev : Operand → Value) (z : World) (ec : ∀ c, ev (.const c) = c) (e29 : ev (.tmp 29) = .pointer (some ⟨f, 0, none⟩)) (hS : (loadVar 45 ⟨bx, 0, none⟩).run Tryd.prog z = .ok (.agg mv) z ∧ z.cell? ⟨bx, 6, none⟩ = some (.int .i64 0) ∧ z.cell? ⟨f, 0, none⟩ = some (.int .i64 9) ∧ z.cell? ⟨f, 5, none⟩ = some (.slice (some ⟨q, oq, none⟩) 1 cq) ∧ z.cell? ⟨f, 6, none⟩ = some (.slice (some ⟨g, 0, none⟩) 1 1) ∧ z.cell? ⟨g, 0, none⟩ = some (.slice none 0 0)) : (execOp ev ⟨some 30, Op.fieldAddr 33 (Operand.tmp 29) 4, 0, "", #[], none⟩).run Tryd.prog z = .ok (.value (.pointer (some ⟨f, 5, none⟩))) z := by
  obtain ⟨sl, s6, s0, s5, s6f, sg⟩ := hS
  go_simp
theorem fo3_10 (bx f g q oq cq : Nat) (mv : Array Value) (ev : Operand → Value) (z : World) (ec : ∀ c, ev (.const c) = c) (e30 : ev (.tmp 30) = .pointer (some ⟨f, 5, none⟩)) (hS : (loadVar 45 ⟨bx, 0, none⟩).run Tryd.prog z = .ok (.agg mv) z ∧ z.cell? ⟨bx, 6, none⟩ = some (.int .i64 0) ∧ z.cell? ⟨f, 0, none⟩ = some (.int .i64 9) ∧ z.cell? ⟨f, 5, none⟩ = some (.slice (some ⟨q, oq, none⟩) 1 cq) ∧ z.cell? ⟨f, 6, none⟩ = some (.slice (some ⟨g, 0, none⟩) 1 1) ∧ z.cell? ⟨g, 0, none⟩ = some (.slice none 0 0)) : (execOp ev ⟨some 31, Op.load 23 (Operand.tmp 30), 23, "", #[], none⟩).run Tryd.prog z = .ok (.value (.slice (some ⟨q, oq, none⟩) 1 cq)) z := by
  obtain ⟨sl, s6, s0, s5, s6f, sg⟩ := hS
  go_simp
set_option maxRecDepth 100000 in
theorem fo3_11 (bx f g q oq cq : Nat) (mv : Array Value) (ev : Operand → Value) (z : World) (ef : ev (.func 96) = .func (.func 96) #[] #[]) (e21 : ev (.tmp 21) = .agg mv) (e26 : ev (.tmp 26) = .int .i64 9) (e31 : ev (.tmp 31) = .slice (some ⟨q, oq, none⟩) 1 cq) : (execOp ev ⟨some 32, Op.call { callee := Callee.value (Operand.func 96), args := #[Operand.tmp 21, Operand.tmp 26, Operand.tmp 31], argTypes := #[45, 3, 23] }, 4, "", #[], none⟩).run Tryd.prog z = .ok (.enter 96 #[.agg mv, .int .i64 9, .slice (some ⟨q, oq, none⟩) 1 cq]) z :=
  enter_run _ ef (by simp only [List.map_toArray, List.map_cons, List.map_nil, e21, e26, e31]) (fun _ => by rfl)
theorem fo3_12 (bx f g q oq cq : Nat) (mv : Array Value) (ev : Operand → Value) (z : World) (ec : ∀ c, ev (.const c) = c) (e32 : ev (.tmp 32) = .bool true) (hS : (loadVar 45 ⟨bx, 0, none⟩).run Tryd.prog z = .ok (.agg mv) z ∧ z.cell? ⟨bx, 6, none⟩ = some (.int .i64 0) ∧ z.cell? ⟨f, 0, none⟩ = some (.int .i64 9) ∧ z.cell? ⟨f, 5, none⟩ = some (.slice (some ⟨q, oq, none⟩) 1 cq) ∧ z.cell? ⟨f, 6, none⟩ = some (.slice (some ⟨g, 0, none⟩) 1 1) ∧ z.cell? ⟨g, 0, none⟩ = some (.slice none 0 0)) : (execOp ev ⟨some 33, Op.unOp UnOp.not 4 (Operand.tmp 32), 4, "", #[], none⟩).run Tryd.prog z = .ok (.value (.bool false)) z := by
  obtain ⟨sl, s6, s0, s5, s6f, sg⟩ := hS
  go_simp
theorem fo3_13 (bx f g q oq cq : Nat) (mv : Array Value) (ev : Operand → Value) (z : World) (ec : ∀ c, ev (.const c) = c) (e33 : ev (.tmp 33) = .bool false) (hS : (loadVar 45 ⟨bx, 0, none⟩).run Tryd.prog z = .ok (.agg mv) z ∧ z.cell? ⟨bx, 6, none⟩ = some (.int .i64 0) ∧ z.cell? ⟨f, 0, none⟩ = some (.int .i64 9) ∧ z.cell? ⟨f, 5, none⟩ = some (.slice (some ⟨q, oq, none⟩) 1 cq) ∧ z.cell? ⟨f, 6, none⟩ = some (.slice (some ⟨g, 0, none⟩) 1 1) ∧ z.cell? ⟨g, 0, none⟩ = some (.slice none 0 0)) : (execOp ev ⟨some 34, Op.move (Operand.tmp 33), 4, "", #[], none⟩).run Tryd.prog z = .ok (.value (.bool false)) z := by
  obtain ⟨sl, s6, s0, s5, s6f, sg⟩ := hS
  go_simp
theorem fo3_14 (bx f g q oq cq : Nat) (mv : Array Value) (ev : Operand → Value) (z : World) (ec : ∀ c, ev (.const c) = c) (e0 : ev (.tmp 0) = .pointer (some ⟨f, 0, none⟩)) (hS : (loadVar 45 ⟨bx, 0, none⟩).run Tryd.prog z = .ok (.agg mv) z ∧ z.cell? ⟨bx, 6, none⟩ = some (.int .i64 0) ∧ z.cell? ⟨f, 0, none⟩ = some (.int .i64 9) ∧ z.cell? ⟨f, 5, none⟩ = some (.slice (some ⟨q, oq, none⟩) 1 cq) ∧ z.cell? ⟨f, 6, none⟩ = some (.slice (some ⟨g, 0, none⟩) 1 1) ∧ z.cell? ⟨g, 0, none⟩ = some (.slice none 0 0)) : (execOp ev ⟨some 35, Op.move (Operand.tmp 0), 58, "", #[], some (13, false)⟩).run Tryd.prog z = .ok (.value (.pointer (some ⟨f, 0, none⟩))) z := by
  obtain ⟨sl, s6, s0, s5, s6f, sg⟩ := hS
  go_simp
theorem fo3_15 (bx f g q oq cq : Nat) (mv : Array Value) (ev : Operand → Value) (z : World) (ec : ∀ c, ev (.const c) = c) (e35 : ev (.tmp 35) = .pointer (some ⟨f, 0, none⟩)) (hS : (loadVar 45 ⟨bx, 0, none⟩).run Tryd.prog z = .ok (.agg mv) z ∧ z.cell? ⟨bx, 6, none⟩ = some (.int .i64 0) ∧ z.cell? ⟨f, 0, none⟩ = some (.int .i64 9) ∧ z.cell? ⟨f, 5, none⟩ = some (.slice (some ⟨q, oq, none⟩) 1 cq) ∧ z.cell? ⟨f, 6, none⟩ = some (.slice (some ⟨g, 0, none⟩) 1 1) ∧ z.cell? ⟨g, 0, none⟩ = some (.slice none 0 0)) : (execOp ev ⟨some 36, Op.nilCheck (Operand.tmp 35), 0, "", #[], some (13, false)⟩).run Tryd.prog z = .ok (.value (.pointer (some ⟨f, 0, none⟩))) z := by
  obtain ⟨sl, s6, s0, s5, s6f, sg⟩ := hS
  go_simp
theorem fo3_16 (bx f g q oq cq : Nat) (mv : Array Value) (ev : Operand → Value) (z : World) (ec : ∀ c, ev (.const c) = c) (e36 : ev (.tmp 36) = .pointer (some ⟨f, 0, none⟩)) (hS : (loadVar 45 ⟨bx, 0, none⟩).run Tryd.prog z = .ok (.agg mv) z ∧ z.cell? ⟨bx, 6, none⟩ = some (.int .i64 0) ∧ z.cell? ⟨f, 0, none⟩ = some (.int .i64 9) ∧ z.cell? ⟨f, 5, none⟩ = some (.slice (some ⟨q, oq, none⟩) 1 cq) ∧ z.cell? ⟨f, 6, none⟩ = some (.slice (some ⟨g, 0, none⟩) 1 1) ∧ z.cell? ⟨g, 0, none⟩ = some (.slice none 0 0)) : (execOp ev ⟨some 37, Op.fieldAddr 143 (Operand.tmp 36) 1, 0, "", #[], some (13, false)⟩).run Tryd.prog z = .ok (.value (.pointer (some ⟨f, 6, none⟩))) z := by
  obtain ⟨sl, s6, s0, s5, s6f, sg⟩ := hS
  go_simp
theorem fo3_17 (bx f g q oq cq : Nat) (mv : Array Value) (ev : Operand → Value) (z : World) (ec : ∀ c, ev (.const c) = c) (e37 : ev (.tmp 37) = .pointer (some ⟨f, 6, none⟩)) (hS : (loadVar 45 ⟨bx, 0, none⟩).run Tryd.prog z = .ok (.agg mv) z ∧ z.cell? ⟨bx, 6, none⟩ = some (.int .i64 0) ∧ z.cell? ⟨f, 0, none⟩ = some (.int .i64 9) ∧ z.cell? ⟨f, 5, none⟩ = some (.slice (some ⟨q, oq, none⟩) 1 cq) ∧ z.cell? ⟨f, 6, none⟩ = some (.slice (some ⟨g, 0, none⟩) 1 1) ∧ z.cell? ⟨g, 0, none⟩ = some (.slice none 0 0)) : (execOp ev ⟨some 38, Op.load 27 (Operand.tmp 37), 27, "", #[], some (13, false)⟩).run Tryd.prog z = .ok (.value (.slice (some ⟨g, 0, none⟩) 1 1)) z := by
  obtain ⟨sl, s6, s0, s5, s6f, sg⟩ := hS
  go_simp
theorem fo3_18 (bx f g q oq cq : Nat) (mv : Array Value) (ev : Operand → Value) (z : World) (ec : ∀ c, ev (.const c) = c) (e3 : ev (.tmp 3) = .pointer (some ⟨bx, 0, none⟩)) (hS : (loadVar 45 ⟨bx, 0, none⟩).run Tryd.prog z = .ok (.agg mv) z ∧ z.cell? ⟨bx, 6, none⟩ = some (.int .i64 0) ∧ z.cell? ⟨f, 0, none⟩ = some (.int .i64 9) ∧ z.cell? ⟨f, 5, none⟩ = some (.slice (some ⟨q, oq, none⟩) 1 cq) ∧ z.cell? ⟨f, 6, none⟩ = some (.slice (some ⟨g, 0, none⟩) 1 1) ∧ z.cell? ⟨g, 0, none⟩ = some (.slice none 0 0)) : (execOp ev ⟨some 39, Op.fieldAddr 45 (Operand.tmp 3) 6, 0, "", #[], some (13, false)⟩).run Tryd.prog z = .ok (.value (.pointer (some ⟨bx, 6, none⟩))) z := by
  obtain ⟨sl, s6, s0, s5, s6f, sg⟩ := hS
  go_simp
theorem fo3_19 (bx f g q oq cq : Nat) (mv : Array Value) (ev : Operand → Value) (z : World) (ec : ∀ c, ev (.const c) = c) (e39 : ev (.tmp 39) = .pointer (some ⟨bx, 6, none⟩)) (hS : (loadVar 45 ⟨bx, 0, none⟩).run Tryd.prog z = .ok (.agg mv) z ∧ z.cell? ⟨bx, 6, none⟩ = some (.int .i64 0) ∧ z.cell? ⟨f, 0, none⟩ = some (.int .i64 9) ∧ z.cell? ⟨f, 5, none⟩ = some (.slice (some ⟨q, oq, none⟩) 1 cq) ∧ z.cell? ⟨f, 6, none⟩ = some (.slice (some ⟨g, 0, none⟩) 1 1) ∧ z.cell? ⟨g, 0, none⟩ = some (.slice none 0 0)) : (execOp ev ⟨some 40, Op.load 3 (Operand.tmp 39), 3, "", #[], some (13, false)⟩).run Tryd.prog z = .ok (.value (.int .i64 0)) z := by
  obtain ⟨sl, s6, s0, s5, s6f, sg⟩ := hS
  go_simp
theorem fo3_20 (bx f g q oq cq : Nat) (mv : Array Value) (ev : Operand → Value) (z : World) (ec : ∀ c, ev (.const c) = c) (e38 : ev (.tmp 38) = .slice (some ⟨g, 0, none⟩) 1 1) (e40 : ev (.tmp 40) = .int .i64 0) (hS : (loadVar 45 ⟨bx, 0, none⟩).run Tryd.prog z = .ok (.agg mv) z ∧ z.cell? ⟨bx, 6, none⟩ = some (.int .i64 0) ∧ z.cell? ⟨f, 0, none⟩ = some (.int .i64 9) ∧ z.cell? ⟨f, 5, none⟩ = some (.slice (some ⟨q, oq, none⟩) 1 cq) ∧ z.cell? ⟨f, 6, none⟩ = some (.slice (some ⟨g, 0, none⟩) 1 1) ∧ z.cell? ⟨g, 0, none⟩ = some (.slice none 0 0)) : (execOp ev ⟨some 41, Op.indexAddr 27 (Operand.tmp 38) (Operand.tmp 40), 0, "", #[], some (13, false)⟩).run Tryd.prog z = .ok (.value (.pointer (some ⟨g, 0, none⟩))) z := by
  obtain ⟨sl, s6, s0, s5, s6f, sg⟩ := hS
  go_simp
theorem fo3_21 (bx f g q oq cq : Nat) (mv : Array Value) (ev : Operand → Value) (z : World) (ec : ∀ c, ev (.const c) = c) (e41 : ev (.tmp 41) = .pointer (some ⟨g, 0, none⟩)) (hS : (loadVar 45 ⟨bx, 0, none⟩).run Tryd.prog z = .ok (.agg mv) z ∧ z.cell? ⟨bx, 6, none⟩ = some (.int .i64 0) ∧ z.cell? ⟨f, 0, none⟩ = some (.int .i64 9) ∧ z.cell? ⟨f, 5, none⟩ = some (.slice (some ⟨q, oq, none⟩) 1 cq) ∧ z.cell? ⟨f, 6, none⟩ = some (.slice (some ⟨g, 0, none⟩) 1 1) ∧ z.cell? ⟨g, 0, none⟩ = some (.slice none 0 0)) : (execOp ev ⟨some 42, Op.load 22 (Operand.tmp 41), 22, "", #[], some (13, false)⟩).run Tryd.prog z = .ok (.value (.slice none 0 0)) z := by
  obtain ⟨sl, s6, s0, s5, s6f, sg⟩ := hS
  go_simp
theorem fo3_22 (bx f g q oq cq : Nat) (mv : Array Value) (ev : Operand → Value) (z : World) (ec : ∀ c, ev (.const c) = c) (e42 : ev (.tmp 42) = .slice none 0 0) (hS : (loadVar 45 ⟨bx, 0, none⟩).run Tryd.prog z = .ok (.agg mv) z ∧ z.cell? ⟨bx, 6, none⟩ = some (.int .i64 0) ∧ z.cell? ⟨f, 0, none⟩ = some (.int .i64 9) ∧ z.cell? ⟨f, 5, none⟩ = some (.slice (some ⟨q, oq, none⟩) 1 cq) ∧ z.cell? ⟨f, 6, none⟩ = some (.slice (some ⟨g, 0, none⟩) 1 1) ∧ z.cell? ⟨g, 0, none⟩ = some (.slice none 0 0)) : (execOp ev ⟨some 43, Op.call { callee := Callee.builtin Builtin.len, args := #[Operand.tmp 42], argTypes := #[22] }, 3, "", #[], some (13, false)⟩).run Tryd.prog z = .ok (.value (.int .i64 0)) z := by
  obtain ⟨sl, s6, s0, s5, s6f, sg⟩ := hS
  go_simp
theorem fo3_23 (bx f g q oq cq : Nat) (mv : Array Value) (ev : Operand → Value) (z : World) (ec : ∀ c, ev (.const c) = c) (e43 : ev (.tmp 43) = .int .i64 0) (hS : (loadVar 45 ⟨bx, 0, none⟩).run Tryd.prog z = .ok (.agg mv) z ∧ z.cell? ⟨bx, 6, none⟩ = some (.int .i64 0) ∧ z.cell? ⟨f, 0, none⟩ = some (.int .i64 9) ∧ z.cell? ⟨f, 5, none⟩ = some (.slice (some ⟨q, oq, none⟩) 1 cq) ∧ z.cell? ⟨f, 6, none⟩ = some (.slice (some ⟨g, 0, none⟩) 1 1) ∧ z.cell? ⟨g, 0, none⟩ = some (.slice none 0 0)) : (execOp ev ⟨some 44, Op.binOp BinOp.gtr 3 (Operand.tmp 43) (Operand.const (Value.int IntKind.i64 0)) 3, 4, "", #[], some (13, false)⟩).run Tryd.prog z = .ok (.value (.bool false)) z := by
  obtain ⟨sl, s6, s0, s5, s6f, sg⟩ := hS
  go_simp
theorem fo3_24 (bx f g q oq cq : Nat) (mv : Array Value) (ev : Operand → Value) (z : World) (ec : ∀ c, ev (.const c) = c) (e34 : ev (.tmp 34) = .bool false) (e44 : ev (.tmp 44) = .bool false) (hS : (loadVar 45 ⟨bx, 0, none⟩).run Tryd.prog z = .ok (.agg mv) z ∧ z.cell? ⟨bx, 6, none⟩ = some (.int .i64 0) ∧ z.cell? ⟨f, 0, none⟩ = some (.int .i64 9) ∧ z.cell? ⟨f, 5, none⟩ = some (.slice (some ⟨q, oq, none⟩) 1 cq) ∧ z.cell? ⟨f, 6, none⟩ = some (.slice (some ⟨g, 0, none⟩) 1 1) ∧ z.cell? ⟨g, 0, none⟩ = some (.slice none 0 0)) : (execOp ev ⟨some 45, Op.pick (Operand.tmp 34) (Operand.const (Value.bool true)) (Operand.tmp 44), 4, "", #[], none⟩).run Tryd.prog z = .ok (.value (.bool false)) z := by
  obtain ⟨sl, s6, s0, s5, s6f, sg⟩ := hS
  go_simp
structure fo3R (ops : Array Oper) : Prop where
  size : ops.size = 25
  sel : Region.noSelect ops = true
  o0 : (ops[0]?).map bare = some ⟨some 21, Op.load 45 (Operand.tmp 3), 45, "", #[], none⟩
  o1 : (ops[1]?).map bare = some ⟨some 22, Op.move (Operand.tmp 0), 58, "", #[], none⟩
  o2 : (ops[2]?).map bare = some ⟨some 23, Op.nilCheck (Operand.tmp 22), 0, "", #[], none⟩
  o3 : (ops[3]?).map bare = some ⟨some 24, Op.fieldAddr 143 (Operand.tmp 23) 0, 0, "", #[], none⟩
  o4 : (ops[4]?).map bare = some ⟨some 25, Op.fieldAddr 33 (Operand.tmp 24) 0, 0, "", #[], none⟩
  o5 : (ops[5]?).map bare = some ⟨some 26, Op.load 3 (Operand.tmp 25), 3, "", #[], none⟩
  o6 : (ops[6]?).map bare = some ⟨some 27, Op.move (Operand.tmp 0), 58, "", #[], none⟩
  o7 : (ops[7]?).map bare = some ⟨some 28, Op.nilCheck (Operand.tmp 27), 0, "", #[], none⟩
  o8 : (ops[8]?).map bare = some ⟨some 29, Op.fieldAddr 143 (Operand.tmp 28) 0, 0, "", #[], none⟩
  o9 : (ops[9]?).map bare = some ⟨some 30, Op.fieldAddr 33 (Operand.tmp 29) 4, 0, "", #[], none⟩
  o10 : (ops[10]?).map bare = some ⟨some 31, Op.load 23 (Operand.tmp 30), 23, "", #[], none⟩
  o11 : (ops[11]?).map bare = some ⟨some 32, Op.call { callee := Callee.value (Operand.func 96), args := #[Operand.tmp 21, Operand.tmp 26, Operand.tmp 31], argTypes := #[45, 3, 23] }, 4, "", #[], none⟩
  o12 : (ops[12]?).map bare = some ⟨some 33, Op.unOp UnOp.not 4 (Operand.tmp 32), 4, "", #[], none⟩
  o13 : (ops[13]?).map bare = some ⟨some 34, Op.move (Operand.tmp 33), 4, "", #[], none⟩
  o14 : (ops[14]?).map bare = some ⟨some 35, Op.move (Operand.tmp 0), 58, "", #[], some (13, false)⟩
  o15 : (ops[15]?).map bare = some ⟨some 36, Op.nilCheck (Operand.tmp 35), 0, "", #[], some (13, false)⟩
  o16 : (ops[16]?).map bare = some ⟨some 37, Op.fieldAddr 143 (Operand.tmp 36) 1, 0, "", #[], some (13, false)⟩
  o17 : (ops[17]?).map bare = some ⟨some 38, Op.load 27 (Operand.tmp 37), 27, "", #[], some (13, false)⟩
  o18 : (ops[18]?).map bare = some ⟨some 39, Op.fieldAddr 45 (Operand.tmp 3) 6, 0, "", #[], some (13, false)⟩
  o19 : (ops[19]?).map bare = some ⟨some 40, Op.load 3 (Operand.tmp 39), 3, "", #[], some (13, false)⟩
  o20 : (ops[20]?).map bare = some ⟨some 41, Op.indexAddr 27 (Operand.tmp 38) (Operand.tmp 40), 0, "", #[], some (13, false)⟩
  o21 : (ops[21]?).map bare = some ⟨some 42, Op.load 22 (Operand.tmp 41), 22, "", #[], some (13, false)⟩
  o22 : (ops[22]?).map bare = some ⟨some 43, Op.call { callee := Callee.builtin Builtin.len, args := #[Operand.tmp 42], argTypes := #[22] }, 3, "", #[], some (13, false)⟩
  o23 : (ops[23]?).map bare = some ⟨some 44, Op.binOp BinOp.gtr 3 (Operand.tmp 43) (Operand.const (Value.int IntKind.i64 0)) 3, 4, "", #[], some (13, false)⟩
  o24 : (ops[24]?).map bare = some ⟨some 45, Op.pick (Operand.tmp 34) (Operand.const (Value.bool true)) (Operand.tmp 44), 4, "", #[], none⟩
  may0 : takeB .any ops [0, 1, 2, 3, 4, 5, 6, 7, 8, 9, 10] (Array.replicate 25 false) = true
  r11 : Region.ready .any ops (mark [0, 1, 2, 3, 4, 5, 6, 7, 8, 9, 10] (Array.replicate 25 false)) = [11]
  may1 : takeB .any ops [12, 13, 14, 15, 16, 17, 18, 19, 20, 21, 22, 23, 24] ((mark [0, 1, 2, 3, 4, 5, 6, 7, 8, 9, 10] (Array.replicate 25 false)).setIfInBounds 11 true) = true
  fin : Region.ready .any ops (mark [12, 13, 14, 15, 16, 17, 18, 19, 20, 21, 22, 23, 24] ((mark [0, 1, 2, 3, 4, 5, 6, 7, 8, 9, 10] (Array.replicate 25 false)).setIfInBounds 11 true)) = []

set_option maxRecDepth 100000 in
set_option maxHeartbeats 3200000 in
theorem fo3_region {ops : Array Oper} {id : Nat} {Q : Exit → Act → World → Prop} {a : Act} {y : World} (R : fo3R ops) (bx f g q oq cq : Nat) (mv : Array Value)
    (hQ : ∀ d v c a w, Q (.panic c) (a.put d v) w → Q (.panic c) a w) (hsz : a.tmps.size = 63) (e0 : a.eval (.tmp 0) = .pointer (some ⟨f, 0, none⟩)) (e3 : a.eval (.tmp 3) = .pointer (some ⟨bx, 0, none⟩)) (hS0 : (loadVar 45 ⟨bx, 0, none⟩).run Tryd.prog y.drew = .ok (.agg mv) y.drew ∧ y.drew.cell? ⟨bx, 6, none⟩ = some (.int .i64 0) ∧ y.drew.cell? ⟨f, 0, none⟩ = some (.int .i64 9) ∧ y.drew.cell? ⟨f, 5, none⟩ = some (.slice (some ⟨q, oq, none⟩) 1 cq) ∧ y.drew.cell? ⟨f, 6, none⟩ = some (.slice (some ⟨g, 0, none⟩) 1 1) ∧ y.drew.cell? ⟨g, 0, none⟩ = some (.slice none 0 0)) (T : World → Prop) (hc : Calls Tryd.prog 96 #[.agg mv, .int .i64 9, .slice (some ⟨q, oq, none⟩) 1 cq] y.drew fun e w9 => e = .returned (.bool true) ∧ ((loadVar 45 ⟨bx, 0, none⟩).run Tryd.prog w9 = .ok (.agg mv) w9 ∧ w9.cell? ⟨bx, 6, none⟩ = some (.int .i64 0) ∧ w9.cell? ⟨f, 0, none⟩ = some (.int .i64 9) ∧ w9.cell? ⟨f, 5, none⟩ = some (.slice (some ⟨q, oq, none⟩) 1 cq) ∧ w9.cell? ⟨f, 6, none⟩ = some (.slice (some ⟨g, 0, none⟩) 1 1) ∧ w9.cell? ⟨g, 0, none⟩ = some (.slice none 0 0)) ∧ T w9)
    (hK : ∀ w9 : World, T w9 → Q .normal (((((((((((((((((((((((((a.put (some 21) (.agg mv)).put (some 22) (.pointer (some ⟨f, 0, none⟩))).put (some 23) (.pointer (some ⟨f, 0, none⟩))).put (some 24) (.pointer (some ⟨f, 0, none⟩))).put (some 25) (.pointer (some ⟨f, 0, none⟩))).put (some 26) (.int .i64 9)).put (some 27) (.pointer (some ⟨f, 0, none⟩))).put (some 28) (.pointer (some ⟨f, 0, none⟩))).put (some 29) (.pointer (some ⟨f, 0, none⟩))).put (some 30) (.pointer (some ⟨f, 5, none⟩))).put (some 31) (.slice (some ⟨q, oq, none⟩) 1 cq)).put (some 32) (.bool true)).put (some 33) (.bool false)).put (some 34) (.bool false)).put (some 35) (.pointer (some ⟨f, 0, none⟩))).put (some 36) (.pointer (some ⟨f, 0, none⟩))).put (some 37) (.pointer (some ⟨f, 6, none⟩))).put (some 38) (.slice (some ⟨g, 0, none⟩) 1 1)).put (some 39) (.pointer (some ⟨bx, 6, none⟩))).put (some 40) (.int .i64 0)).put (some 41) (.pointer (some ⟨g, 0, none⟩))).put (some 42) (.slice none 0 0)).put (some 43) (.int .i64 0)).put (some 44) (.bool false)).put (some 45) (.bool false)) w9) : (Code.region id ops true).wp Tryd.prog Q a y := by
  have HR : Hid (fo3R ops) := R
  have hdf : a.defers = a.defers := rfl
  refine wp_region_held_drew (S := (fun z : World => (loadVar 45 ⟨bx, 0, none⟩).run Tryd.prog z = .ok (.agg mv) z ∧ z.cell? ⟨bx, 6, none⟩ = some (.int .i64 0) ∧ z.cell? ⟨f, 0, none⟩ = some (.int .i64 9) ∧ z.cell? ⟨f, 5, none⟩ = some (.slice (some ⟨q, oq, none⟩) 1 cq) ∧ z.cell? ⟨f, 6, none⟩ = some (.slice (some ⟨g, 0, none⟩) 1 1) ∧ z.cell? ⟨g, 0, none⟩ = some (.slice none 0 0))) (by kernel_rfl) (hS0) (fun hHeld => ?_)
  rw [R.size]
  clear R
  refine wpAnyH_takes HR.out.sel hQ hHeld [0, 1, 2, 3, 4, 5, 6, 7, 8, 9, 10] 14 _ _ HR.out.may0 ?_
  refine wpTake_stepE ⟨some 21, Op.load 45 (Operand.tmp 3), 45, "", #[], none⟩ 21 (.agg mv) HR.out.o0 rfl (by rw [hsz]; decide) (wanted_none rfl) (fun z hS => fo3_0 bx f g q oq cq mv _ z (fun _ => rfl) e3 hS) ?_
  intro a1 ha1 s1 f1 n1 k1
  replace hsz := s1.trans hsz
  replace hdf := f1.trans hdf
  replace e0 := (k1 0 (by decide)).trans e0
  replace e3 := (k1 3 (by decide)).trans e3
  have e21 := n1
  clear s1 f1 n1 k1
  refine wpTake_stepE ⟨some 22, Op.move (Operand.tmp 0), 58, "", #[], none⟩ 22 (.pointer (some ⟨f, 0, none⟩)) HR.out.o1 rfl (by rw [hsz]; decide) (wanted_none rfl) (fun z hS => fo3_1 bx f g q oq cq mv _ z (fun _ => rfl) e0 hS) ?_
  intro a2 ha2 s1 f1 n1 k1
  replace hsz := s1.trans hsz
  replace hdf := f1.trans hdf
  replace e0 := (k1 0 (by decide)).trans e0
  replace e3 := (k1 3 (by decide)).trans e3
  replace e21 := (k1 21 (by decide)).trans e21
  have e22 := n1
  clear s1 f1 n1 k1
  refine wpTake_stepE ⟨some 23, Op.nilCheck (Operand.tmp 22), 0, "", #[], none⟩ 23 (.pointer (some ⟨f, 0, none⟩)) HR.out.o2 rfl (by rw [hsz]; decide) (wanted_none rfl) (fun z hS => fo3_2 bx f g q oq cq mv _ z (fun _ => rfl) e22 hS) ?_
  intro a3 ha3 s1 f1 n1 k1
  replace hsz := s1.trans hsz
  replace hdf := f1.trans hdf
  replace e0 := (k1 0 (by decide)).trans e0
  replace e3 := (k1 3 (by decide)).trans e3
  replace e21 := (k1 21 (by decide)).trans e21
  have e23 := n1
  clear s1 f1 n1 k1
  refine wpTake_stepE ⟨some 24, Op.fieldAddr 143 (Operand.tmp 23) 0, 0, "", #[], none⟩ 24 (.pointer (some ⟨f, 0, none⟩)) HR.out.o3 rfl (by rw [hsz]; decide) (wanted_none rfl) (fun z hS => fo3_3 bx f g q oq cq mv _ z (fun _ => rfl) e23 hS) ?_
  intro a4 ha4 s1 f1 n1 k1
  replace hsz := s1.trans hsz
  replace hdf := f1.trans hdf
  replace e0 := (k1 0 (by decide)).trans e0
  replace e3 := (k1 3 (by decide)).trans e3
  replace e21 := (k1 21 (by decide)).trans e21
  have e24 := n1
  clear s1 f1 n1 k1
  refine wpTake_stepE ⟨some 25, Op.fieldAddr 33 (Operand.tmp 24) 0, 0, "", #[], none⟩ 25 (.pointer (some ⟨f, 0, none⟩)) HR.out.o4 rfl (by rw [hsz]; decide) (wanted_none rfl) (fun z hS => fo3_4 bx f g q oq cq mv _ z (fun _ => rfl) e24 hS) ?_
  intro a5 ha5 s1 f1 n1 k1
  replace hsz := s1.trans hsz
  replace hdf := f1.trans hdf
  replace e0 := (k1 0 (by decide)).trans e0
  replace e3 := (k1 3 (by decide)).trans e3
  replace e21 := (k1 21 (by decide)).trans e21
  have e25 := n1
  clear s1 f1 n1 k1
  refine wpTake_stepE ⟨some 26, Op.load 3 (Operand.tmp 25), 3, "", #[], none⟩ 26 (.int .i64 9) HR.out.o5 rfl (by rw [hsz]; decide) (wanted_none rfl) (fun z hS => fo3_5 bx f g q oq cq mv _ z (fun _ => rfl) e25 hS) ?_
  intro a6 ha6 s1 f1 n1 k1
  replace hsz := s1.trans hsz
  replace hdf := f1.trans hdf
  replace e0 := (k1 0 (by decide)).trans e0
  replace e3 := (k1 3 (by decide)).trans e3
  replace e21 := (k1 21 (by decide)).trans e21
  have e26 := n1
  clear s1 f1 n1 k1
  refine wpTake_stepE ⟨some 27, Op.move (Operand.tmp 0), 58, "", #[], none⟩ 27 (.pointer (some ⟨f, 0, none⟩)) HR.out.o6 rfl (by rw [hsz]; decide) (wanted_none rfl) (fun z hS => fo3_6 bx f g q oq cq mv _ z (fun _ => rfl) e0 hS) ?_
  intro a7 ha7 s1 f1 n1 k1
  replace hsz := s1.trans hsz
  replace hdf := f1.trans hdf
  replace e0 := (k1 0 (by decide)).trans e0
  replace e3 := (k1 3 (by decide)).trans e3
  replace e21 := (k1 21 (by decide)).trans e21
  replace e26 := (k1 26 (by decide)).trans e26
  have e27 := n1
  clear s1 f1 n1 k1
  refine wpTake_stepE ⟨some 28, Op.nilCheck (Operand.tmp 27), 0, "", #[], none⟩ 28 (.pointer (some ⟨f, 0, none⟩)) HR.out.o7 rfl (by rw [hsz]; decide) (wanted_none rfl) (fun z hS => fo3_7 bx f g q oq cq mv _ z (fun _ => rfl) e27 hS) ?_
  intro a8 ha8 s1 f1 n1 k1
  replace hsz := s1.trans hsz
  replace hdf := f1.trans hdf
  replace e0 := (k1 0 (by decide)).trans e0
  replace e3 := (k1 3 (by decide)).trans e3
  replace e21 := (k1 21 (by decide)).trans e21
  replace e26 := (k1 26 (by decide)).trans e26
  have e28 := n1
  clear s1 f1 n1 k1
  refine wpTake_stepE ⟨some 29, Op.fieldAddr 143 (Operand.tmp 28) 0, 0, "", #[], none⟩ 29 (.pointer (some ⟨f, 0, none⟩)) HR.out.o8 rfl (by rw [hsz]; decide) (wanted_none rfl) (fun z hS => fo3_8 bx f g q oq cq mv _ z (fun _ => rfl) e28 hS) ?_
  intro a9 ha9 s1 f1 n1 k1
  replace hsz := s1.trans hsz
  replace hdf := f1.trans hdf
  replace e0 := (k1 0 (by decide)).trans e0
  replace e3 := (k1 3 (by decide)).trans e3
  replace e21 := (k1 21 (by decide)).trans e21
  replace e26 := (k1 26 (by decide)).trans e26
  have e29 := n1
  clear s1 f1 n1 k1
  refine wpTake_stepE ⟨some 30, Op.fieldAddr 33 (Operand.tmp 29) 4, 0, "", #[], none⟩ 30 (.pointer (some ⟨f, 5, none⟩)) HR.out.o9 rfl (by rw [hsz]; decide) (wanted_none rfl) (fun z hS => fo3_9 bx f g q oq cq mv _ z (fun _ => rfl) e29 hS) ?_
  intro a10 ha10 s1 f1 n1 k1
  replace hsz := s1.trans hsz
  replace hdf := f1.trans hdf
  replace e0 := (k1 0 (by decide)).trans e0
  replace e3 := (k1 3 (by decide)).trans e3
  replace e21 := (k1 21 (by decide)).trans e21
  replace e26 := (k1 26 (by decide)).trans e26
  have e30 := n1
  clear s1 f1 n1 k1
  refine wpTake_stepE ⟨some 31, Op.load 23 (Operand.tmp 30), 23, "", #[], none⟩ 31 (.slice (some ⟨q, oq, none⟩) 1 cq) HR.out.o10 rfl (by rw [hsz]; decide) (wanted_none rfl) (fun z hS => fo3_10 bx f g q oq cq mv _ z (fun _ => rfl) e30 hS) ?_
  intro a11 ha11 s1 f1 n1 k1
  replace hsz := s1.trans hsz
  replace hdf := f1.trans hdf
  replace e0 := (k1 0 (by decide)).trans e0
  replace e3 := (k1 3 (by decide)).trans e3
  replace e21 := (k1 21 (by decide)).trans e21
  replace e26 := (k1 26 (by decide)).trans e26
  have e31 := n1
  clear s1 f1 n1 k1
  refine wpTake_nil ?_
  refine wpAnyH_one ⟨some 32, Op.call { callee := Callee.value (Operand.func 96), args := #[Operand.tmp 21, Operand.tmp 26, Operand.tmp 31], argTypes := #[45, 3, 23] }, 4, "", #[], none⟩ HR.out.r11 HR.out.o11 rfl (fun K' hK' => ?_)
  refine wp_enter (fo3_11 bx f g q oq cq mv _ _ rfl e21 e26 e31) (hc) ?_
  rintro e9 w9 ⟨rfl, hS9, hT⟩
  refine ⟨_, rfl, hK'.out _ _ (hS9) ?_⟩
  replace hHeld := hS9
  clear hK' K'
  show wpAnyH _ _ _ _ _ _ _ (Act.put a11 (some 32) (.bool true)) _
  obtain ⟨s1, f1, n1, k1⟩ := act_put a11 32 (.bool true) (show 32 < _ by rw [hsz]; decide)
  obtain ⟨a12, ha12⟩ : ∃ x, x = Act.put a11 (some 32) (.bool true) := ⟨_, rfl⟩
  rw [← ha12] at s1 f1 n1 k1 ⊢
  replace hsz := s1.trans hsz
  replace hdf := f1.trans hdf
  replace e0 := (k1 0 (by decide)).trans e0
  replace e3 := (k1 3 (by decide)).trans e3
  have e32 := n1
  clear s1 f1 n1 k1
  refine wpAnyH_takes HR.out.sel hQ hHeld [12, 13, 14, 15, 16, 17, 18, 19, 20, 21, 22, 23, 24] 0 _ _ HR.out.may1 ?_
  refine wpTake_stepE ⟨some 33, Op.unOp UnOp.not 4 (Operand.tmp 32), 4, "", #[], none⟩ 33 (.bool false) HR.out.o12 rfl (by rw [hsz]; decide) (wanted_none rfl) (fun z hS => fo3_12 bx f g q oq cq mv _ z (fun _ => rfl) e32 hS) ?_
  intro a13 ha13 s1 f1 n1 k1
  replace hsz := s1.trans hsz
  replace hdf := f1.trans hdf
  replace e0 := (k1 0 (by decide)).trans e0
  replace e3 := (k1 3 (by decide)).trans e3
  have e33 := n1
  clear s1 f1 n1 k1
  refine wpTake_stepE ⟨some 34, Op.move (Operand.tmp 33), 4, "", #[], none⟩ 34 (.bool false) HR.out.o13 rfl (by rw [hsz]; decide) (wanted_none rfl) (fun z hS => fo3_13 bx f g q oq cq mv _ z (fun _ => rfl) e33 hS) ?_
  intro a14 ha14 s1 f1 n1 k1
  replace hsz := s1.trans hsz
  replace hdf := f1.trans hdf
  replace e0 := (k1 0 (by decide)).trans e0
  replace e3 := (k1 3 (by decide)).trans e3
  have e34 := n1
  clear s1 f1 n1 k1
  refine wpTake_stepE ⟨some 35, Op.move (Operand.tmp 0), 58, "", #[], some (13, false)⟩ 35 (.pointer (some ⟨f, 0, none⟩)) HR.out.o14 rfl (by rw [hsz]; decide) (wanted_some rfl (yielded_of HR.out.o13 rfl e34 (by rw [hsz]; decide))) (fun z hS => fo3_14 bx f g q oq cq mv _ z (fun _ => rfl) e0 hS) ?_
  intro a15 ha15 s1 f1 n1 k1
  replace hsz := s1.trans hsz
  replace hdf := f1.trans hdf
  replace e3 := (k1 3 (by decide)).trans e3
  replace e34 := (k1 34 (by decide)).trans e34
  have e35 := n1
  clear s1 f1 n1 k1
  refine wpTake_stepE ⟨some 36, Op.nilCheck (Operand.tmp 35), 0, "", #[], some (13, false)⟩ 36 (.pointer (some ⟨f, 0, none⟩)) HR.out.o15 rfl (by rw [hsz]; decide) (wanted_some rfl (yielded_of HR.out.o13 rfl e34 (by rw [hsz]; decide))) (fun z hS => fo3_15 bx f g q oq cq mv _ z (fun _ => rfl) e35 hS) ?_
  intro a16 ha16 s1 f1 n1 k1
  replace hsz := s1.trans hsz
  replace hdf := f1.trans hdf
  replace e3 := (k1 3 (by decide)).trans e3
  replace e34 := (k1 34 (by decide)).trans e34
  have e36 := n1
  clear s1 f1 n1 k1
  refine wpTake_stepE ⟨some 37, Op.fieldAddr 143 (Operand.tmp 36) 1, 0, "", #[], some (13, false)⟩ 37 (.pointer (some ⟨f, 6, none⟩)) HR.out.o16 rfl (by rw [hsz]; decide) (wanted_some rfl (yielded_of HR.out.o13 rfl e34 (by rw [hsz]; decide))) (fun z hS => fo3_16 bx f g q oq cq mv _ z (fun _ => rfl) e36 hS) ?_
  intro a17 ha17 s1 f1 n1 k1
  replace hsz := s1.trans hsz
  replace hdf := f1.trans hdf
  replace e3 := (k1 3 (by decide)).trans e3
  replace e34 := (k1 34 (by decide)).trans e34
  have e37 := n1
  clear s1 f1 n1 k1
  refine wpTake_stepE ⟨some 38, Op.load 27 (Operand.tmp 37), 27, "", #[], some (13, false)⟩ 38 (.slice (some ⟨g, 0, none⟩) 1 1) HR.out.o17 rfl (by rw [hsz]; decide) (wanted_some rfl (yielded_of HR.out.o13 rfl e34 (by rw [hsz]; decide))) (fun z hS => fo3_17 bx f g q oq cq mv _ z (fun _ => rfl) e37 hS) ?_
  intro a18 ha18 s1 f1 n1 k1
  replace hsz := s1.trans hsz
  replace hdf := f1.trans hdf
  replace e3 := (k1 3 (by decide)).trans e3
  replace e34 := (k1 34 (by decide)).trans e34
  have e38 := n1
  clear s1 f1 n1 k1
  refine wpTake_stepE ⟨some 39, Op.fieldAddr 45 (Operand.tmp 3) 6, 0, "", #[], some (13, false)⟩ 39 (.pointer (some ⟨bx, 6, none⟩)) HR.out.o18 rfl (by rw [hsz]; decide) (wanted_some rfl (yielded_of HR.out.o13 rfl e34 (by rw [hsz]; decide))) (fun z hS => fo3_18 bx f g q oq cq mv _ z (fun _ => rfl) e3 hS) ?_
  intro a19 ha19 s1 f1 n1 k1
  replace hsz := s1.trans hsz
  replace hdf := f1.trans hdf
  replace e34 := (k1 34 (by decide)).trans e34
  replace e38 := (k1 38 (by decide)).trans e38
  have e39 := n1
  clear s1 f1 n1 k1
  refine wpTake_stepE ⟨some 40, Op.load 3 (Operand.tmp 39), 3, "", #[], some (13, false)⟩ 40 (.int .i64 0) HR.out.o19 rfl (by rw [hsz]; decide) (wanted_some rfl (yielded_of HR.out.o13 rfl e34 (by rw [hsz]; decide))) (fun z hS => fo3_19 bx f g q oq cq mv _ z (fun _ => rfl) e39 hS) ?_
  intro a20 ha20 s1 f1 n1 k1
  replace hsz := s1.trans hsz
  replace hdf := f1.trans hdf
  replace e34 := (k1 34 (by decide)).trans e34
  replace e38 := (k1 38 (by decide)).trans e38
  have e40 := n1
  clear s1 f1 n1 k1
  refine wpTake_stepE ⟨some 41, Op.indexAddr 27 (Operand.tmp 38) (Operand.tmp 40), 0, "", #[], some (13, false)⟩ 41 (.pointer (some ⟨g, 0, none⟩)) HR.out.o20 rfl (by rw [hsz]; decide) (wanted_some rfl (yielded_of HR.out.o13 rfl e34 (by rw [hsz]; decide))) (fun z hS => fo3_20 bx f g q oq cq mv _ z (fun _ => rfl) e38 e40 hS) ?_
  intro a21 ha21 s1 f1 n1 k1
  replace hsz := s1.trans hsz
  replace hdf := f1.trans hdf
  replace e34 := (k1 34 (by decide)).trans e34
  have e41 := n1
  clear s1 f1 n1 k1
  refine wpTake_stepE ⟨some 42, Op.load 22 (Operand.tmp 41), 22, "", #[], some (13, false)⟩ 42 (.slice none 0 0) HR.out.o21 rfl (by rw [hsz]; decide) (wanted_some rfl (yielded_of HR.out.o13 rfl e34 (by rw [hsz]; decide))) (fun z hS => fo3_21 bx f g q oq cq mv _ z (fun _ => rfl) e41 hS) ?_
  intro a22 ha22 s1 f1 n1 k1
  replace hsz := s1.trans hsz
  replace hdf := f1.trans hdf
  replace e34 := (k1 34 (by decide)).trans e34
  have e42 := n1
  clear s1 f1 n1 k1
  refine wpTake_stepE ⟨some 43, Op.call { callee := Callee.builtin Builtin.len, args := #[Operand.tmp 42], argTypes := #[22] }, 3, "", #[], some (13, false)⟩ 43 (.int .i64 0) HR.out.o22 rfl (by rw [hsz]; decide) (wanted_some rfl (yielded_of HR.out.o13 rfl e34 (by rw [hsz]; decide))) (fun z hS => fo3_22 bx f g q oq cq mv _ z (fun _ => rfl) e42 hS) ?_
  intro a23 ha23 s1 f1 n1 k1
  replace hsz := s1.trans hsz
  replace hdf := f1.trans hdf
  replace e34 := (k1 34 (by decide)).trans e34
  have e43 := n1
  clear s1 f1 n1 k1
  refine wpTake_stepE ⟨some 44, Op.binOp BinOp.gtr 3 (Operand.tmp 43) (Operand.const (Value.int IntKind.i64 0)) 3, 4, "", #[], some (13, false)⟩ 44 (.bool false) HR.out.o23 rfl (by rw [hsz]; decide) (wanted_some rfl (yielded_of HR.out.o13 rfl e34 (by rw [hsz]; decide))) (fun z hS => fo3_23 bx f g q oq cq mv _ z (fun _ => rfl) e43 hS) ?_
  intro a24 ha24 s1 f1 n1 k1
  replace hsz := s1.trans hsz
  replace hdf := f1.trans hdf
  replace e34 := (k1 34 (by decide)).trans e34
  have e44 := n1
  clear s1 f1 n1 k1
  refine wpTake_stepE ⟨some 45, Op.pick (Operand.tmp 34) (Operand.const (Value.bool true)) (Operand.tmp 44), 4, "", #[], none⟩ 45 (.bool false) HR.out.o24 rfl (by rw [hsz]; decide) (wanted_none rfl) (fun z hS => fo3_24 bx f g q oq cq mv _ z (fun _ => rfl) e34 e44 hS) ?_
  intro a25 ha25 s1 f1 n1 k1
  replace hsz := s1.trans hsz
  replace hdf := f1.trans hdf
  clear s1 f1 n1 k1
  refine wpTake_nil ?_
  refine wpAnyH_done HR.out.fin ?_ _
  rw [ha25, ha24, ha23, ha22, ha21, ha20, ha19, ha18, ha17, ha16, ha15, ha14, ha13, ha12, ha11, ha10, ha9, ha8, ha7, ha6, ha5, ha4, ha3, ha2, ha1]
  exact hK _ hT
-- R: ⟨by kernel_rfl, by kernel_rfl, by kernel_rfl, by kernel_rfl, by kernel_rfl, by kernel_rfl, by kernel_rfl, by kernel_rfl, by kernel_rfl, by kernel_rfl, by kernel_rfl, by kernel_rfl, by kernel_rfl, by kernel_rfl, by kernel_rfl, by kernel_rfl, by kernel_rfl, by kernel_rfl, by kernel_rfl, by kernel_rfl, by kernel_rfl, by kernel_rfl, by kernel_rfl, by kernel_rfl, by kernel_rfl, by kernel_rfl, by kernel_rfl, by kernel_rfl, by kernel_rfl, by kernel_rfl, by kernel_rfl⟩

theorem fo5_st (g : Nat) (ps : Option Addr) (cs : Nat) (ev : Operand → Value) (z : World) (e55 : ev (.tmp 55) = .pointer (some ⟨g, 0, none⟩)) (e54 : ev (.tmp 54) = .slice ps 8 cs) (hc : z.cell? ⟨g, 0, none⟩ = some (.slice none 0 0)) (hf : z.frozen? ⟨g, 0, none⟩ = false) : (execOp ev ⟨none, Op.store 22 (Operand.tmp 55) (Operand.tmp 54), 0, "", #[], none⟩).run Tryd.prog z = .ok .skip (z.setCell ⟨g, 0, none⟩ (.slice ps 8 cs)) := by go_simp
theorem fo5_0 (bx f g : Nat) (pb : Option Addr) (c : Nat) (ev : Operand → Value) (z : World) (ec : ∀ c, ev (.const c) = c) (e0 : ev (.tmp 0) = .pointer (some ⟨f, 0, none⟩)) (hS : z.cell? ⟨f, 6, none⟩ = some (.slice (some ⟨g, 0, none⟩) 1 1) ∧ z.cell? ⟨bx, 6, none⟩ = some (.int .i64 0) ∧ z.cell? ⟨bx, 23, none⟩ = some (.slice pb 8 c)) : (execOp ev ⟨some 46, Op.move (Operand.tmp 0), 58, "", #[], none⟩).run Tryd.prog z = .ok (.value (.pointer (some ⟨f, 0, none⟩))) z := by
  obtain ⟨s6f, s6, s23⟩ := hS
  go_simp
theorem fo5_1 (bx f g : Nat) (pb : Option Addr) (c : Nat) (ev : Operand → Value) (z : World) (ec : ∀ c, ev (.const c) = c) (e46 : ev (.tmp 46) = .pointer (some ⟨f, 0, none⟩)) (hS : z.cell? ⟨f, 6, none⟩ = some (.slice (some ⟨g, 0, none⟩) 1 1) ∧ z.cell? ⟨bx, 6, none⟩ = some (.int .i64 0) ∧ z.cell? ⟨bx, 23, none⟩ = some (.slice pb 8 c)) : (execOp ev ⟨some 47, Op.nilCheck (Operand.tmp 46), 0, "", #[], none⟩).run Tryd.prog z = .ok (.value (.pointer (some ⟨f, 0, none⟩))) z := by
  obtain ⟨s6f, s6, s23⟩ := hS
  go_simp
theorem fo5_2 (bx f g : Nat) (pb : Option Addr) (c : Nat) (ev : Operand → Value) (z : World) (ec : ∀ c, ev (.const c) = c) (e47 : ev (.tmp 47) = .pointer (some ⟨f, 0, none⟩)) (hS : z.cell? ⟨f, 6, none⟩ = some (.slice (some ⟨g, 0, none⟩) 1 1) ∧ z.cell? ⟨bx, 6, none⟩ = some (.int .i64 0) ∧ z.cell? ⟨bx, 23, none⟩ = some (.slice pb 8 c)) : (execOp ev ⟨some 48, Op.fieldAddr 143 (Operand.tmp 47) 1, 0, "", #[], none⟩).run Tryd.prog z = .ok (.value (.pointer (some ⟨f, 6, none⟩))) z := by
  obtain ⟨s6f, s6, s23⟩ := hS
  go_simp
theorem fo5_3 (bx f g : Nat) (pb : Option Addr) (c : Nat) (ev : Operand → Value) (z : World) (ec : ∀ c, ev (.const c) = c) (e48 : ev (.tmp 48) = .pointer (some ⟨f, 6, none⟩)) (hS : z.cell? ⟨f, 6, none⟩ = some (.slice (some ⟨g, 0, none⟩) 1 1) ∧ z.cell? ⟨bx, 6, none⟩ = some (.int .i64 0) ∧ z.cell? ⟨bx, 23, none⟩ = some (.slice pb 8 c)) : (execOp ev ⟨some 49, Op.load 27 (Operand.tmp 48), 27, "", #[], none⟩).run Tryd.prog z = .ok (.value (.slice (some ⟨g, 0, none⟩) 1 1)) z := by
  obtain ⟨s6f, s6, s23⟩ := hS
  go_simp
theorem fo5_4 (bx f g : Nat) (pb : Option Addr) (c : Nat) (ev : Operand → Value) (z : World) (ec : ∀ c, ev (.const c) = c) (e3 : ev (.tmp 3) = .pointer (some ⟨bx, 0, none⟩)) (hS : z.cell? ⟨f, 6, none⟩ = some (.slice (some ⟨g, 0, none⟩) 1 1) ∧ z.cell? ⟨bx, 6, none⟩ = some (.int .i64 0) ∧ z.cell? ⟨bx, 23, none⟩ = some (.slice pb 8 c)) : (execOp ev ⟨some 50, Op.fieldAddr 45 (Operand.tmp 3) 6, 0, "", #[], none⟩).run Tryd.prog z = .ok (.value (.pointer (some ⟨bx, 6, none⟩))) z := by
  obtain ⟨s6f, s6, s23⟩ := hS
  go_simp
theorem fo5_5 (bx f g : Nat) (pb : Option Addr) (c : Nat) (ev : Operand → Value) (z : World) (ec : ∀ c, ev (.const c) = c) (e50 : ev (.tmp 50) = .pointer (some ⟨bx, 6, none⟩)) (hS : z.cell? ⟨f, 6, none⟩ = some (.slice (some ⟨g, 0, none⟩) 1 1) ∧ z.cell? ⟨bx, 6, none⟩ = some (.int .i64 0) ∧ z.cell? ⟨bx, 23, none⟩ = some (.slice pb 8 c)) : (execOp ev ⟨some 51, Op.load 3 (Operand.tmp 50), 3, "", #[], none⟩).run Tryd.prog z = .ok (.value (.int .i64 0)) z := by
  obtain ⟨s6f, s6, s23⟩ := hS
  go_simp
theorem fo5_6 (bx f g : Nat) (pb : Option Addr) (c : Nat) (ev : Operand → Value) (z : World) (ec : ∀ c, ev (.const c) = c) (e3 : ev (.tmp 3) = .pointer (some ⟨bx, 0, none⟩)) (hS : z.cell? ⟨f, 6, none⟩ = some (.slice (some ⟨g, 0, none⟩) 1 1) ∧ z.cell? ⟨bx, 6, none⟩ = some (.int .i64 0) ∧ z.cell? ⟨bx, 23, none⟩ = some (.slice pb 8 c)) : (execOp ev ⟨some 52, Op.fieldAddr 45 (Operand.tmp 3) 12, 0, "", #[], none⟩).run Tryd.prog z = .ok (.value (.pointer (some ⟨bx, 23, none⟩))) z := by
  obtain ⟨s6f, s6, s23⟩ := hS
  go_simp
theorem fo5_7 (bx f g : Nat) (pb : Option Addr) (c : Nat) (ev : Operand → Value) (z : World) (ec : ∀ c, ev (.const c) = c) (e52 : ev (.tmp 52) = .pointer (some ⟨bx, 23, none⟩)) (hS : z.cell? ⟨f, 6, none⟩ = some (.slice (some ⟨g, 0, none⟩) 1 1) ∧ z.cell? ⟨bx, 6, none⟩ = some (.int .i64 0) ∧ z.cell? ⟨bx, 23, none⟩ = some (.slice pb 8 c)) : (execOp ev ⟨some 53, Op.load 22 (Operand.tmp 52), 22, "", #[], none⟩).run Tryd.prog z = .ok (.value (.slice pb 8 c)) z := by
  obtain ⟨s6f, s6, s23⟩ := hS
  go_simp
set_option maxRecDepth 100000 in
theorem fo5_8 (bx f g : Nat) (pb : Option Addr) (c : Nat) (ev : Operand → Value) (z : World) (ef : ev (.func 17) = .func (.func 17) #[] #[]) (e53 : ev (.tmp 53) = .slice pb 8 c) : (execOp ev ⟨some 54, Op.call { callee := Callee.value (Operand.func 17), args := #[Operand.tmp 53], argTypes := #[22] }, 22, "", #[], none⟩).run Tryd.prog z = .ok (.enter 17 #[.slice pb 8 c]) z :=
  enter_run _ ef (by simp only [List.map_toArray, List.map_cons, List.map_nil, e53]) (fun _ => by rfl)
theorem fo5_9 (bx f g : Nat) (pb : Option Addr) (c : Nat) (ev : Operand → Value) (z : World) (ec : ∀ c, ev (.const c) = c) (e49 : ev (.tmp 49) = .slice (some ⟨g, 0, none⟩) 1 1) (e51 : ev (.tmp 51) = .int .i64 0) (hS : z.cell? ⟨f, 6, none⟩ = some (.slice (some ⟨g, 0, none⟩) 1 1) ∧ z.cell? ⟨bx, 6, none⟩ = some (.int .i64 0) ∧ z.cell? ⟨bx, 23, none⟩ = some (.slice pb 8 c)) : (execOp ev ⟨some 55, Op.indexAddr 27 (Operand.tmp 49) (Operand.tmp 51), 0, "", #[], none⟩).run Tryd.prog z = .ok (.value (.pointer (some ⟨g, 0, none⟩))) z := by
  obtain ⟨s6f, s6, s23⟩ := hS
  go_simp
structure fo5R (ops : Array Oper) : Prop where
  size : ops.size = 11
  sel : Region.noSelect ops = true
  o0 : (ops[0]?).map bare = some ⟨some 46, Op.move (Operand.tmp 0), 58, "", #[], none⟩
  o1 : (ops[1]?).map bare = some ⟨some 47, Op.nilCheck (Operand.tmp 46), 0, "", #[], none⟩
  o2 : (ops[2]?).map bare = some ⟨some 48, Op.fieldAddr 143 (Operand.tmp 47) 1, 0, "", #[], none⟩
  o3 : (ops[3]?).map bare = some ⟨some 49, Op.load 27 (Operand.tmp 48), 27, "", #[], none⟩
  o4 : (ops[4]?).map bare = some ⟨some 50, Op.fieldAddr 45 (Operand.tmp 3) 6, 0, "", #[], none⟩
  o5 : (ops[5]?).map bare = some ⟨some 51, Op.load 3 (Operand.tmp 50), 3, "", #[], none⟩
  o6 : (ops[6]?).map bare = some ⟨some 52, Op.fieldAddr 45 (Operand.tmp 3) 12, 0, "", #[], none⟩
  o7 : (ops[7]?).map bare = some ⟨some 53, Op.load 22 (Operand.tmp 52), 22, "", #[], none⟩
  o8 : (ops[8]?).map bare = some ⟨some 54, Op.call { callee := Callee.value (Operand.func 17), args := #[Operand.tmp 53], argTypes := #[22] }, 22, "", #[], none⟩
  o9 : (ops[9]?).map bare = some ⟨some 55, Op.indexAddr 27 (Operand.tmp 49) (Operand.tmp 51), 0, "", #[], none⟩
  o10 : (ops[10]?).map bare = some ⟨none, Op.store 22 (Operand.tmp 55) (Operand.tmp 54), 0, "", #[], none⟩
  may0 : takeB .any ops [0, 1, 2, 3, 4, 5, 6, 7] (Array.replicate 11 false) = true
  r8 : Region.ready .any ops (mark [0, 1, 2, 3, 4, 5, 6, 7] (Array.replicate 11 false)) = [8]
  may1 : takeB .any ops [9] ((mark [0, 1, 2, 3, 4, 5, 6, 7] (Array.replicate 11 false)).setIfInBounds 8 true) = true
  r10 : Region.ready .any ops (mark [9] ((mark [0, 1, 2, 3, 4, 5, 6, 7] (Array.replicate 11 false)).setIfInBounds 8 true)) = [10]
  fin : Region.ready .any ops ((mark [9] ((mark [0, 1, 2, 3, 4, 5, 6, 7] (Array.replicate 11 false)).setIfInBounds 8 true)).setIfInBounds 10 true) = []

set_option maxRecDepth 100000 in
set_option maxHeartbeats 3200000 in
theorem fo5_region {ops : Array Oper} {id : Nat} {Q : Exit → Act → World → Prop} {a : Act} {y : World} (R : fo5R ops) (bx f g : Nat) (pb : Option Addr) (c : Nat)
    (hQ : ∀ d v c a w, Q (.panic c) (a.put d v) w → Q (.panic c) a w) (hsz : a.tmps.size = 63) (e0 : a.eval (.tmp 0) = .pointer (some ⟨f, 0, none⟩)) (e3 : a.eval (.tmp 3) = .pointer (some ⟨bx, 0, none⟩)) (hS0 : y.drew.cell? ⟨f, 6, none⟩ = some (.slice (some ⟨g, 0, none⟩) 1 1) ∧ y.drew.cell? ⟨bx, 6, none⟩ = some (.int .i64 0) ∧ y.drew.cell? ⟨bx, 23, none⟩ = some (.slice pb 8 c)) (T : Option Addr → Nat → World → Prop) (hc : Calls Tryd.prog 17 #[.slice pb 8 c] y.drew fun e w9 => ∃ ps cs, e = .returned (.slice ps 8 cs) ∧ (w9.cell? ⟨f, 6, none⟩ = some (.slice (some ⟨g, 0, none⟩) 1 1) ∧ w9.cell? ⟨bx, 6, none⟩ = some (.int .i64 0) ∧ w9.cell? ⟨bx, 23, none⟩ = some (.slice pb 8 c)) ∧ ((w9.setCell ⟨g, 0, none⟩ (.slice ps 8 cs)).cell? ⟨f, 6, none⟩ = some (.slice (some ⟨g, 0, none⟩) 1 1) ∧ (w9.setCell ⟨g, 0, none⟩ (.slice ps 8 cs)).cell? ⟨bx, 6, none⟩ = some (.int .i64 0) ∧ (w9.setCell ⟨g, 0, none⟩ (.slice ps 8 cs)).cell? ⟨bx, 23, none⟩ = some (.slice pb 8 c)) ∧ w9.cell? ⟨g, 0, none⟩ = some (.slice none 0 0) ∧ w9.frozen? ⟨g, 0, none⟩ = false ∧ T ps cs w9)
    (hK : ∀ (ps : Option Addr) (cs : Nat) (w9 : World), T ps cs w9 → Q .normal ((((((((((a.put (some 46) (.pointer (some ⟨f, 0, none⟩))).put (some 47) (.pointer (some ⟨f, 0, none⟩))).put (some 48) (.pointer (some ⟨f, 6, none⟩))).put (some 49) (.slice (some ⟨g, 0, none⟩) 1 1)).put (some 50) (.pointer (some ⟨bx, 6, none⟩))).put (some 51) (.int .i64 0)).put (some 52) (.pointer (some ⟨bx, 23, none⟩))).put (some 53) (.slice pb 8 c)).put (some 54) (.slice ps 8 cs)).put (some 55) (.pointer (some ⟨g, 0, none⟩))) (w9.setCell ⟨g, 0, none⟩ (.slice ps 8 cs))) : (Code.region id ops true).wp Tryd.prog Q a y := by
  have HR : Hid (fo5R ops) := R
  have hdf : a.defers = a.defers := rfl
  refine wp_region_held_drew (S := (fun z : World => z.cell? ⟨f, 6, none⟩ = some (.slice (some ⟨g, 0, none⟩) 1 1) ∧ z.cell? ⟨bx, 6, none⟩ = some (.int .i64 0) ∧ z.cell? ⟨bx, 23, none⟩ = some (.slice pb 8 c))) (by kernel_rfl) (hS0) (fun hHeld => ?_)
  rw [R.size]
  clear R
  refine wpAnyH_takes HR.out.sel hQ hHeld [0, 1, 2, 3, 4, 5, 6, 7] 3 _ _ HR.out.may0 ?_
  refine wpTake_stepE ⟨some 46, Op.move (Operand.tmp 0), 58, "", #[], none⟩ 46 (.pointer (some ⟨f, 0, none⟩)) HR.out.o0 rfl (by rw [hsz]; decide) (wanted_none rfl) (fun z hS => fo5_0 bx f g pb c _ z (fun _ => rfl) e0 hS) ?_
  intro a1 ha1 s1 f1 n1 k1
  replace hsz := s1.trans hsz
  replace hdf := f1.trans hdf
  replace e3 := (k1 3 (by decide)).trans e3
  have e46 := n1
  clear s1 f1 n1 k1
  refine wpTake_stepE ⟨some 47, Op.nilCheck (Operand.tmp 46), 0, "", #[], none⟩ 47 (.pointer (some ⟨f, 0, none⟩)) HR.out.o1 rfl (by rw [hsz]; decide) (wanted_none rfl) (fun z hS => fo5_1 bx f g pb c _ z (fun _ => rfl) e46 hS) ?_
  intro a2 ha2 s1 f1 n1 k1
  replace hsz := s1.trans hsz
  replace hdf := f1.trans hdf
  replace e3 := (k1 3 (by decide)).trans e3
  have e47 := n1
  clear s1 f1 n1 k1
  refine wpTake_stepE ⟨some 48, Op.fieldAddr 143 (Operand.tmp 47) 1, 0, "", #[], none⟩ 48 (.pointer (some ⟨f, 6, none⟩)) HR.out.o2 rfl (by rw [hsz]; decide) (wanted_none rfl) (fun z hS => fo5_2 bx f g pb c _ z (fun _ => rfl) e47 hS) ?_
  intro a3 ha3 s1 f1 n1 k1
  replace hsz := s1.trans hsz
  replace hdf := f1.trans hdf
  replace e3 := (k1 3 (by decide)).trans e3
  have e48 := n1
  clear s1 f1 n1 k1
  refine wpTake_stepE ⟨some 49, Op.load 27 (Operand.tmp 48), 27, "", #[], none⟩ 49 (.slice (some ⟨g, 0, none⟩) 1 1) HR.out.o3 rfl (by rw [hsz]; decide) (wanted_none rfl) (fun z hS => fo5_3 bx f g pb c _ z (fun _ => rfl) e48 hS) ?_
  intro a4 ha4 s1 f1 n1 k1
  replace hsz := s1.trans hsz
  replace hdf := f1.trans hdf
  replace e3 := (k1 3 (by decide)).trans e3
  have e49 := n1
  clear s1 f1 n1 k1
  refine wpTake_stepE ⟨some 50, Op.fieldAddr 45 (Operand.tmp 3) 6, 0, "", #[], none⟩ 50 (.pointer (some ⟨bx, 6, none⟩)) HR.out.o4 rfl (by rw [hsz]; decide) (wanted_none rfl) (fun z hS => fo5_4 bx f g pb c _ z (fun _ => rfl) e3 hS) ?_
  intro a5 ha5 s1 f1 n1 k1
  replace hsz := s1.trans hsz
  replace hdf := f1.trans hdf
  replace e3 := (k1 3 (by decide)).trans e3
  replace e49 := (k1 49 (by decide)).trans e49
  have e50 := n1
  clear s1 f1 n1 k1
  refine wpTake_stepE ⟨some 51, Op.load 3 (Operand.tmp 50), 3, "", #[], none⟩ 51 (.int .i64 0) HR.out.o5 rfl (by rw [hsz]; decide) (wanted_none rfl) (fun z hS => fo5_5 bx f g pb c _ z (fun _ => rfl) e50 hS) ?_
  intro a6 ha6 s1 f1 n1 k1
  replace hsz := s1.trans hsz
  replace hdf := f1.trans hdf
  replace e3 := (k1 3 (by decide)).trans e3
  replace e49 := (k1 49 (by decide)).trans e49
  have e51 := n1
  clear s1 f1 n1 k1
  refine wpTake_stepE ⟨some 52, Op.fieldAddr 45 (Operand.tmp 3) 12, 0, "", #[], none⟩ 52 (.pointer (some ⟨bx, 23, none⟩)) HR.out.o6 rfl (by rw [hsz]; decide) (wanted_none rfl) (fun z hS => fo5_6 bx f g pb c _ z (fun _ => rfl) e3 hS) ?_
  intro a7 ha7 s1 f1 n1 k1
  replace hsz := s1.trans hsz
  replace hdf := f1.trans hdf
  replace e49 := (k1 49 (by decide)).trans e49
  replace e51 := (k1 51 (by decide)).trans e51
  have e52 := n1
  clear s1 f1 n1 k1
  refine wpTake_stepE ⟨some 53, Op.load 22 (Operand.tmp 52), 22, "", #[], none⟩ 53 (.slice pb 8 c) HR.out.o7 rfl (by rw [hsz]; decide) (wanted_none rfl) (fun z hS => fo5_7 bx f g pb c _ z (fun _ => rfl) e52 hS) ?_
  intro a8 ha8 s1 f1 n1 k1
  replace hsz := s1.trans hsz
  replace hdf := f1.trans hdf
  replace e49 := (k1 49 (by decide)).trans e49
  replace e51 := (k1 51 (by decide)).trans e51
  have e53 := n1
  clear s1 f1 n1 k1
  refine wpTake_nil ?_
  refine wpAnyH_one ⟨some 54, Op.call { callee := Callee.value (Operand.func 17), args := #[Operand.tmp 53], argTypes := #[22] }, 22, "", #[], none⟩ HR.out.r8 HR.out.o8 rfl (fun K' hK' => ?_)
  refine wp_enter (fo5_8 bx f g pb c _ _ rfl e53) (hc) ?_
  rintro e9 w9 ⟨ps, cs, rfl, hS9, hS10, hcg, hfg, hT⟩
  refine ⟨_, rfl, hK'.out _ _ (hS9) ?_⟩
  replace hHeld := hS9
  clear hK' K'
  show wpAnyH _ _ _ _ _ _ _ (Act.put a8 (some 54) (.slice ps 8 cs)) _
  obtain ⟨s1, f1, n1, k1⟩ := act_put a8 54 (.slice ps 8 cs) (show 54 < _ by rw [hsz]; decide)
  obtain ⟨a9, ha9⟩ : ∃ x, x = Act.put a8 (some 54) (.slice ps 8 cs) := ⟨_, rfl⟩
  rw [← ha9] at s1 f1 n1 k1 ⊢
  replace hsz := s1.trans hsz
  replace hdf := f1.trans hdf
  replace e49 := (k1 49 (by decide)).trans e49
  replace e51 := (k1 51 (by decide)).trans e51
  have e54 := n1
  clear s1 f1 n1 k1
  refine wpAnyH_takes HR.out.sel hQ hHeld [9] 1 _ _ HR.out.may1 ?_
  refine wpTake_stepE ⟨some 55, Op.indexAddr 27 (Operand.tmp 49) (Operand.tmp 51), 0, "", #[], none⟩ 55 (.pointer (some ⟨g, 0, none⟩)) HR.out.o9 rfl (by rw [hsz]; decide) (wanted_none rfl) (fun z hS => fo5_9 bx f g pb c _ z (fun _ => rfl) e49 e51 hS) ?_
  intro a10 ha10 s1 f1 n1 k1
  replace hsz := s1.trans hsz
  replace hdf := f1.trans hdf
  replace e54 := (k1 54 (by decide)).trans e54
  have e55 := n1
  clear s1 f1 n1 k1
  refine wpTake_nil ?_
  refine wpAnyH_skip ⟨none, Op.store 22 (Operand.tmp 55) (Operand.tmp 54), 0, "", #[], none⟩ (w9.setCell ⟨g, 0, none⟩ (.slice ps 8 cs)) HR.out.r10 HR.out.o10 rfl rfl (fo5_st g ps cs _ _ e55 e54 hcg hfg) (hS10) ?_
  replace hHeld := hS10
  refine wpAnyH_done HR.out.fin ?_ _
  rw [ha10, ha9, ha8, ha7, ha6, ha5, ha4, ha3, ha2, ha1]
  exact hK _ _ _ hT
-- R: ⟨by kernel_rfl, by kernel_rfl, by kernel_rfl, by kernel_rfl, by kernel_rfl, by kernel_rfl, by kernel_rfl, by kernel_rfl, by kernel_rfl, by kernel_rfl, by kernel_rfl, by kernel_rfl, by kernel_rfl, by kernel_rfl, by kernel_rfl, by kernel_rfl, by kernel_rfl, by kernel_rfl⟩

theorem fd1_0 (bx m f : Nat) (mv : Array Value) (ev : Operand → Value) (z : World) (ec : ∀ c, ev (.const c) = c) (e0 : ev (.tmp 0) = .pointer (some ⟨m, 0, none⟩)) (hS : (loadVar 45 ⟨bx, 0, none⟩).run Tryd.prog z = .ok (.agg mv) z ∧ z.cell? ⟨m, 5, none⟩ = some (.pointer (some ⟨f, 0, none⟩))) : (execOp ev ⟨some 8, Op.move (Operand.tmp 0), 34, "", #[], none⟩).run Tryd.prog z = .ok (.value (.pointer (some ⟨m, 0, none⟩))) z := by
  obtain ⟨sl, s5⟩ := hS
  go_simp
theorem fd1_1 (bx m f : Nat) (mv : Array Value) (ev : Operand → Value) (z : World) (ec : ∀ c, ev (.const c) = c) (e8 : ev (.tmp 8) = .pointer (some ⟨m, 0, none⟩)) (hS : (loadVar 45 ⟨bx, 0, none⟩).run Tryd.prog z = .ok (.agg mv) z ∧ z.cell? ⟨m, 5, none⟩ = some (.pointer (some ⟨f, 0, none⟩))) : (execOp ev ⟨some 9, Op.nilCheck (Operand.tmp 8), 0, "", #[], none⟩).run Tryd.prog z = .ok (.value (.pointer (some ⟨m, 0, none⟩))) z := by
  obtain ⟨sl, s5⟩ := hS
  go_simp
theorem fd1_2 (bx m f : Nat) (mv : Array Value) (ev : Operand → Value) (z : World) (ec : ∀ c, ev (.const c) = c) (e9 : ev (.tmp 9) = .pointer (some ⟨m, 0, none⟩)) (hS : (loadVar 45 ⟨bx, 0, none⟩).run Tryd.prog z = .ok (.agg mv) z ∧ z.cell? ⟨m, 5, none⟩ = some (.pointer (some ⟨f, 0, none⟩))) : (execOp ev ⟨some 10, Op.fieldAddr 60 (Operand.tmp 9) 3, 0, "", #[], none⟩).run Tryd.prog z = .ok (.value (.pointer (some ⟨m, 5, none⟩))) z := by
  obtain ⟨sl, s5⟩ := hS
  go_simp
theorem fd1_3 (bx m f : Nat) (mv : Array Value) (ev : Operand → Value) (z : World) (ec : ∀ c, ev (.const c) = c) (e10 : ev (.tmp 10) = .pointer (some ⟨m, 5, none⟩)) (hS : (loadVar 45 ⟨bx, 0, none⟩).run Tryd.prog z = .ok (.agg mv) z ∧ z.cell? ⟨m, 5, none⟩ = some (.pointer (some ⟨f, 0, none⟩))) : (execOp ev ⟨some 11, Op.load 58 (Operand.tmp 10), 58, "", #[], none⟩).run Tryd.prog z = .ok (.value (.pointer (some ⟨f, 0, none⟩))) z := by
  obtain ⟨sl, s5⟩ := hS
  go_simp
theorem fd1_4 (bx m f : Nat) (mv : Array Value) (ev : Operand → Value) (z : World) (ec : ∀ c, ev (.const c) = c) (e3 : ev (.tmp 3) = .pointer (some ⟨bx, 0, none⟩)) (hS : (loadVar 45 ⟨bx, 0, none⟩).run Tryd.prog z = .ok (.agg mv) z ∧ z.cell? ⟨m, 5, none⟩ = some (.pointer (some ⟨f, 0, none⟩))) : (execOp ev ⟨some 12, Op.load 45 (Operand.tmp 3), 45, "", #[], none⟩).run Tryd.prog z = .ok (.value (.agg mv)) z := by
  exact exec_load e3 hS.1
set_option maxRecDepth 100000 in
theorem fd1_5 (bx m f : Nat) (mv : Array Value) (ev : Operand → Value) (z : World) (ef : ev (.func 60) = .func (.func 60) #[] #[]) (e11 : ev (.tmp 11) = .pointer (some ⟨f, 0, none⟩)) (e12 : ev (.tmp 12) = .agg mv) : (execOp ev ⟨some 13, Op.call { callee := Callee.value (Operand.func 60), args := #[Operand.tmp 11, Operand.tmp 12], argTypes := #[58, 45] }, 4, "", #[], none⟩).run Tryd.prog z = .ok (.enter 60 #[.pointer (some ⟨f, 0, none⟩), .agg mv]) z :=
  enter_run _ ef (by simp only [List.map_toArray, List.map_cons, List.map_nil, e11, e12]) (fun _ => by rfl)
theorem fd1_6 (bx m f : Nat) (mv : Array Value) (ev : Operand → Value) (z : World) (ec : ∀ c, ev (.const c) = c) (e13 : ev (.tmp 13) = .bool true) (hS : (loadVar 45 ⟨bx, 0, none⟩).run Tryd.prog z = .ok (.agg mv) z ∧ z.cell? ⟨m, 5, none⟩ = some (.pointer (some ⟨f, 0, none⟩))) : (execOp ev ⟨some 14, Op.unOp UnOp.not 4 (Operand.tmp 13), 4, "", #[], none⟩).run Tryd.prog z = .ok (.value (.bool false)) z := by
  obtain ⟨sl, s5⟩ := hS
  go_simp
structure fd1R (ops : Array Oper) : Prop where
  size : ops.size = 7
  sel : Region.noSelect ops = true
  o0 : (ops[0]?).map bare = some ⟨some 8, Op.move (Operand.tmp 0), 34, "", #[], none⟩
  o1 : (ops[1]?).map bare = some ⟨some 9, Op.nilCheck (Operand.tmp 8), 0, "", #[], none⟩
  o2 : (ops[2]?).map bare = some ⟨some 10, Op.fieldAddr 60 (Operand.tmp 9) 3, 0, "", #[], none⟩
  o3 : (ops[3]?).map bare = some ⟨some 11, Op.load 58 (Operand.tmp 10), 58, "", #[], none⟩
  o4 : (ops[4]?).map bare = some ⟨some 12, Op.load 45 (Operand.tmp 3), 45, "", #[], none⟩
  o5 : (ops[5]?).map bare = some ⟨some 13, Op.call { callee := Callee.value (Operand.func 60), args := #[Operand.tmp 11, Operand.tmp 12], argTypes := #[58, 45] }, 4, "", #[], none⟩
  o6 : (ops[6]?).map bare = some ⟨some 14, Op.unOp UnOp.not 4 (Operand.tmp 13), 4, "", #[], none⟩
  may0 : takeB .any ops [0, 1, 2, 3, 4] (Array.replicate 7 false) = true
  r5 : Region.ready .any ops (mark [0, 1, 2, 3, 4] (Array.replicate 7 false)) = [5]
  may1 : takeB .any ops [6] ((mark [0, 1, 2, 3, 4] (Array.replicate 7 false)).setIfInBounds 5 true) = true
  fin : Region.ready .any ops (mark [6] ((mark [0, 1, 2, 3, 4] (Array.replicate 7 false)).setIfInBounds 5 true)) = []

set_option maxRecDepth 100000 in
set_option maxHeartbeats 3200000 in
theorem fd1_region {ops : Array Oper} {id : Nat} {Q : Exit → Act → World → Prop} {a : Act} {y : World} (R : fd1R ops) (bx m f : Nat) (mv : Array Value)
    (hQ : ∀ d v c a w, Q (.panic c) (a.put d v) w → Q (.panic c) a w) (hsz : a.tmps.size = 61) (e0 : a.eval (.tmp 0) = .pointer (some ⟨m, 0, none⟩)) (e3 : a.eval (.tmp 3) = .pointer (some ⟨bx, 0, none⟩)) (hS0 : (loadVar 45 ⟨bx, 0, none⟩).run Tryd.prog y.drew = .ok (.agg mv) y.drew ∧ y.drew.cell? ⟨m, 5, none⟩ = some (.pointer (some ⟨f, 0, none⟩))) (T : World → Prop) (hc : Calls Tryd.prog 60 #[.pointer (some ⟨f, 0, none⟩), .agg mv] y.drew fun e w9 => e = .returned (.bool true) ∧ ((loadVar 45 ⟨bx, 0, none⟩).run Tryd.prog w9 = .ok (.agg mv) w9 ∧ w9.cell? ⟨m, 5, none⟩ = some (.pointer (some ⟨f, 0, none⟩))) ∧ T w9)
    (hK : ∀ w9 : World, T w9 → Q .normal (((((((a.put (some 8) (.pointer (some ⟨m, 0, none⟩))).put (some 9) (.pointer (some ⟨m, 0, none⟩))).put (some 10) (.pointer (some ⟨m, 5, none⟩))).put (some 11) (.pointer (some ⟨f, 0, none⟩))).put (some 12) (.agg mv)).put (some 13) (.bool true)).put (some 14) (.bool false)) w9) : (Code.region id ops true).wp Tryd.prog Q a y := by
  have HR : Hid (fd1R ops) := R
  have hdf : a.defers = a.defers := rfl
  refine wp_region_held_drew (S := (fun z : World => (loadVar 45 ⟨bx, 0, none⟩).run Tryd.prog z = .ok (.agg mv) z ∧ z.cell? ⟨m, 5, none⟩ = some (.pointer (some ⟨f, 0, none⟩)))) (by kernel_rfl) (hS0) (fun hHeld => ?_)
  rw [R.size]
  clear R
  refine wpAnyH_takes HR.out.sel hQ hHeld [0, 1, 2, 3, 4] 2 _ _ HR.out.may0 ?_
  refine wpTake_stepE ⟨some 8, Op.move (Operand.tmp 0), 34, "", #[], none⟩ 8 (.pointer (some ⟨m, 0, none⟩)) HR.out.o0 rfl (by rw [hsz]; decide) (wanted_none rfl) (fun z hS => fd1_0 bx m f mv _ z (fun _ => rfl) e0 hS) ?_
  intro a1 ha1 s1 f1 n1 k1
  replace hsz := s1.trans hsz
  replace hdf := f1.trans hdf
  replace e3 := (k1 3 (by decide)).trans e3
  have e8 := n1
  clear s1 f1 n1 k1
  refine wpTake_stepE ⟨some 9, Op.nilCheck (Operand.tmp 8), 0, "", #[], none⟩ 9 (.pointer (some ⟨m, 0, none⟩)) HR.out.o1 rfl (by rw [hsz]; decide) (wanted_none rfl) (fun z hS => fd1_1 bx m f mv _ z (fun _ => rfl) e8 hS) ?_
  intro a2 ha2 s1 f1 n1 k1
  replace hsz := s1.trans hsz
  replace hdf := f1.trans hdf
  replace e3 := (k1 3 (by decide)).trans e3
  have e9 := n1
  clear s1 f1 n1 k1
  refine wpTake_stepE ⟨some 10, Op.fieldAddr 60 (Operand.tmp 9) 3, 0, "", #[], none⟩ 10 (.pointer (some ⟨m, 5, none⟩)) HR.out.o2 rfl (by rw [hsz]; decide) (wanted_none rfl) (fun z hS => fd1_2 bx m f mv _ z (fun _ => rfl) e9 hS) ?_
  intro a3 ha3 s1 f1 n1 k1
  replace hsz := s1.trans hsz
  replace hdf := f1.trans hdf
  replace e3 := (k1 3 (by decide)).trans e3
  have e10 := n1
  clear s1 f1 n1 k1
  refine wpTake_stepE ⟨some 11, Op.load 58 (Operand.tmp 10), 58, "", #[], none⟩ 11 (.pointer (some ⟨f, 0, none⟩)) HR.out.o3 rfl (by rw [hsz]; decide) (wanted_none rfl) (fun z hS => fd1_3 bx m f mv _ z (fun _ => rfl) e10 hS) ?_
  intro a4 ha4 s1 f1 n1 k1
  replace hsz := s1.trans hsz
  replace hdf := f1.trans hdf
  replace e3 := (k1 3 (by decide)).trans e3
  have e11 := n1
  clear s1 f1 n1 k1
  refine wpTake_stepE ⟨some 12, Op.load 45 (Operand.tmp 3), 45, "", #[], none⟩ 12 (.agg mv) HR.out.o4 rfl (by rw [hsz]; decide) (wanted_none rfl) (fun z hS => fd1_4 bx m f mv _ z (fun _ => rfl) e3 hS) ?_
  intro a5 ha5 s1 f1 n1 k1
  replace hsz := s1.trans hsz
  replace hdf := f1.trans hdf
  replace e11 := (k1 11 (by decide)).trans e11
  have e12 := n1
  clear s1 f1 n1 k1
  refine wpTake_nil ?_
  refine wpAnyH_one ⟨some 13, Op.call { callee := Callee.value (Operand.func 60), args := #[Operand.tmp 11, Operand.tmp 12], argTypes := #[58, 45] }, 4, "", #[], none⟩ HR.out.r5 HR.out.o5 rfl (fun K' hK' => ?_)
  refine wp_enter (fd1_5 bx m f mv _ _ rfl e11 e12) (hc) ?_
  rintro e9 w9 ⟨rfl, hS9, hT⟩
  refine ⟨_, rfl, hK'.out _ _ (hS9) ?_⟩
  replace hHeld := hS9
  clear hK' K'
  show wpAnyH _ _ _ _ _ _ _ (Act.put a5 (some 13) (.bool true)) _
  obtain ⟨s1, f1, n1, k1⟩ := act_put a5 13 (.bool true) (show 13 < _ by rw [hsz]; decide)
  obtain ⟨a6, ha6⟩ : ∃ x, x = Act.put a5 (some 13) (.bool true) := ⟨_, rfl⟩
  rw [← ha6] at s1 f1 n1 k1 ⊢
  replace hsz := s1.trans hsz
  replace hdf := f1.trans hdf
  have e13 := n1
  clear s1 f1 n1 k1
  refine wpAnyH_takes HR.out.sel hQ hHeld [6] 0 _ _ HR.out.may1 ?_
  refine wpTake_stepE ⟨some 14, Op.unOp UnOp.not 4 (Operand.tmp 13), 4, "", #[], none⟩ 14 (.bool false) HR.out.o6 rfl (by rw [hsz]; decide) (wanted_none rfl) (fun z hS => fd1_6 bx m f mv _ z (fun _ => rfl) e13 hS) ?_
  intro a7 ha7 s1 f1 n1 k1
  replace hsz := s1.trans hsz
  replace hdf := f1.trans hdf
  clear s1 f1 n1 k1
  refine wpTake_nil ?_
  refine wpAnyH_done HR.out.fin ?_ _
  rw [ha7, ha6, ha5, ha4, ha3, ha2, ha1]
  exact hK _ hT
-- R: ⟨by kernel_rfl, by kernel_rfl, by kernel_rfl, by kernel_rfl, by kernel_rfl, by kernel_rfl, by kernel_rfl, by kernel_rfl, by kernel_rfl, by kernel_rfl, by kernel_rfl, by kernel_rfl, by kernel_rfl⟩

end Go.Proofs.YtmncocmeafcpfaaDoor
