/- Texts of this proof, joined: Ra, Ra1, Ra2, Rj. -/
import Derived.Test.YtmncocmeafcpfaaDoorMgAQ
import Derived.Test.YtmncocmeafcpfaaDoorMgAU
import Derived.Lib.SliceRun
import Derived.Test.YtmncocmeafcpfaaDoorMgAS
import Derived.Test.YtmncocmeafcpfaaDoorMgAH
/- A fetch of two shards (laid by scripts/mkrb.py). -/
namespace Go.Proofs.YtmncocmeafcpfaaDoor
set_option linter.unusedVariables false
set_option linter.unusedSimpArgs false
open Go.RowKit Go.Deep

abbrev bF (n : Nat) (sm : Int) : Bs0 := ⟨4, (n : Int), sm, 1, 1⟩
theorem made2 : madeCells #[Value.slice none 0 0] 2 = #[Value.slice none 0 0, Value.slice none 0 0] := by
  simp only [madeCells]
  apply Array.ext'
  simp [Array.toList_range, List.range_succ]
theorem make2 (w : World) : (Instr.makeSlice 27 (.int .i64 2) (.int .i64 2)).run Tryd.prog w = .ok (.slice (some ⟨w.heap.size, 0, none⟩) 2 2) (w.alloc (.cells #[.slice none 0 0, .slice none 0 0] 22)) := by
  rw [← made2]
  exact run_make_row' (P := Tryd.prog) 27 22 (.slice none 0 0) 24 Tryd.underlying27 infoBs rfl .i64 .i64 2 (by omega) (by omega) w
theorem nds01 : Nds [0, 1] := ⟨by decide, fun i j hi hj h => by
  have h1 : i < 2 := hi
  have h2 : j < 2 := hj
  rcases i with _ | _ | i <;> rcases j with _ | _ | j <;> first | omega | simp⟩
theorem fl01 {w : World} {b o : Nat} (h0 : w.cell? ⟨b, o, none⟩ = some (.int .i64 0)) (h1 : w.cell? ⟨b, o + 1, none⟩ = some (.int .i64 1)) : Fl w (fun x => x = b) (some ⟨b, o, none⟩) (([0, 1] : List Int).map encI) := fun j u hu => by
  match j with
  | 0 => simp at hu; subst hu; exact ⟨b, o, rfl, rfl, h0⟩
  | 1 => simp at hu; subst hu; exact ⟨b, o, rfl, rfl, h1⟩
  | j + 2 => simp at hu

/-- a fetch of two shards, the first of which is v0 -/
structure Fe2 (w : World) (f g q oq cq : Nat) (n : Nat) (sm cnt : Int) (v0 : Value) : Prop where
  lf : Lv w f (fetA (bF n sm) (.slice (some ⟨q, oq, none⟩) 2 cq) (.slice (some ⟨g, 0, none⟩) 2 2) cnt)
  lg : Lv w g [v0, .slice none 0 0]
  q0 : w.cell? ⟨q, oq, none⟩ = some (.int .i64 0)
  q1 : w.cell? ⟨q, oq + 1, none⟩ = some (.int .i64 1)
  ne : f ≠ g ∧ q ≠ f ∧ q ≠ g
theorem Fe2.keep {S : Nat → Prop} {w w' : World} {f g q oq cq n : Nat} {sm cnt : Int} {v0 : Value} (h : Fe2 w f g q oq cq n sm cnt v0) (k : Kp S w w') (hf : ¬ S f) (hg : ¬ S g) (hq : ¬ S q) : Fe2 w' f g q oq cq n sm cnt v0 :=
  ⟨h.lf.keep k hf, h.lg.keep k hg, k.cellv h.q0 hq, k.cellv h.q1 hq, h.ne⟩
theorem Fe2.keep0 {w w' : World} {f g q oq cq n : Nat} {sm cnt : Int} {v0 : Value} (h : Fe2 w f g q oq cq n sm cnt v0) (k : Kp (fun _ => False) w w') : Fe2 w' f g q oq cq n sm cnt v0 := h.keep k id id id
theorem Fe2.lt {w : World} {f g q oq cq n : Nat} {sm cnt : Int} {v0 : Value} (h : Fe2 w f g q oq cq n sm cnt v0) : f < w.heap.size ∧ g < w.heap.size ∧ q < w.heap.size := ⟨h.lf.lt (by simp), h.lg.lt (by simp), World.block_lt_of_cell? _ _ h.q0⟩

/-- the blocks of a fetch have no other cells -/
def Exa (w : World) (f g : Nat) : Prop := (∀ j, 8 ≤ j → w.cell? ⟨f, j, none⟩ = none) ∧ (∀ j, 2 ≤ j → w.cell? ⟨g, j, none⟩ = none)
theorem Exa.keep {w w' : World} {f g : Nat} (h : Exa w f g) (k : Kp (fun _ => False) w w') (hf : f < w.heap.size) (hg : g < w.heap.size) : Exa w' f g :=
  ⟨fun j hj => by rw [k.cell (a := ⟨f, j, none⟩) hf id]; exact h.1 j hj, fun j hj => by rw [k.cell (a := ⟨g, j, none⟩) hg id]; exact h.2 j hj⟩
theorem exa_new (w : World) (cs : Array Value) (t : TypeId) (j : Nat) (hj : cs.size ≤ j) : (w.alloc (.cells cs t)).cell? ⟨w.heap.size, j, none⟩ = none := by
  have hh := heap_alloc_new w (.cells cs t)
  simp only [World.cell?, hh]
  show (if (none : Option _).isSome = true then none else cs[j]?) = none
  rw [if_neg (by simp)]
  exact Array.getElem?_eq_none hj

set_option maxRecDepth 100000 in
set_option maxHeartbeats 1600000 in
theorem newFetch2 (n : Nat) (sm : Int) (b o c : Nat) (w : World) (h0 : w.cell? ⟨b, o, none⟩ = some (.int .i64 0)) (h1 : w.cell? ⟨b, o + 1, none⟩ = some (.int .i64 1)) (hc : 2 ≤ c) (hn : (n : Int) ≤ 400) : Calls Tryd.prog 47 #[.agg (blobA (bF n sm) (.slice (some ⟨b, o, none⟩) 2 c))] w fun e w' => ∃ f q oq cq g, e = .returned (.tuple #[.pointer (some ⟨f, 0, none⟩), .bool true]) ∧ Kp (fun _ => False) w w' ∧ w.heap.size ≤ f ∧ w.heap.size ≤ q ∧ w.heap.size ≤ g ∧ Fe2 w' f g q oq cq n sm 0 (.slice none 0 0) ∧ Exa w' f g := by
  have H1 : Hid (∀ z, Kp (fun _ => False) w z → Calls Tryd.prog 57 #[.agg #[.int .i64 1, .int .i64 1], .int .i64 (n : Int), .slice (some ⟨b, o, none⟩) 2 c] z fun e w' => e = .returned (.bool true) ∧ Kp (fun _ => False) z w') := fun z k => fit_yes 1 1 n 2 _ c _ [0, 1] z (by decide) (by decide) hn (fl01 (k.cellv h0 id) (k.cellv h1 id)) ⟨rfl, rfl⟩ nds01 hc
  have H2 : Hid (∀ z, Kp (fun _ => False) w z → Calls Tryd.prog 89 #[.agg (blobA (bF n sm) (.slice (some ⟨b, o, none⟩) 2 c))] z fun e w' => ∃ q cq, e = .returned (.agg (blobA (bF n sm) (.slice q 2 cq))) ∧ Kp (fun _ => False) z w' ∧ Fl w' (fun b => z.heap.size ≤ b ∧ b < w'.heap.size) q (([0, 1] : List Int).map encI)) := fun z k => cloneBlob_ok (bF n sm) _ _ c [0, 1] z (fl01 (k.cellv h0 id) (k.cellv h1 id)) (by show _ ≤ _; decide)
  have hl : Lv (w.alloc (.cells (blobA (bF n sm) (.slice (some ⟨b, o, none⟩) 2 c)) 33)) w.heap.size (blobA (bF n sm) (.slice (some ⟨b, o, none⟩) 2 c)).toList := Lv.new w _ _
  have k0 : Kp (fun _ => False) w (w.alloc (.cells (blobA (bF n sm) (.slice (some ⟨b, o, none⟩) 2 c)) 33)) := (Kp.refl _ _).alloc _
  have c0 := hl.cell (j := 0) rfl
  have c1 := hl.cell (j := 1) rfl
  have c2 := hl.cell (j := 2) rfl
  have c3 := hl.cell (j := 3) rfl
  have c4 := hl.cell (j := 4) rfl
  have c5 := hl.cell (j := 5) rfl
  clear hl hn h0 h1
  go_enter Tryd.func47, Tryd.ntmps47
  go_wp2_with (go_at_call 57; refine (H1.out _ k0).mono ?_; rintro e w1 ⟨rfl, k1⟩; have d0 := k1.cellv c0 id; have d1 := k1.cellv c1 id; have d2 := k1.cellv c2 id; have d3 := k1.cellv c3 id; have d4 := k1.cellv c4 id; have d5 := k1.cellv c5 id)
  have k01 := k0.trans k1 (fun _ _ e => e)
  have HKW : Hid (Kp (fun _ => False) w w1) := k01
  have hmk := make2
  have H3 : Hid (∀ z, Kp (fun _ => False) w1 z → Calls Tryd.prog 89 #[.agg (blobA (bF n sm) (.slice (some ⟨b, o, none⟩) 2 c))] z fun e w' => ∃ q oq cq, e = .returned (.agg (blobA (bF n sm) (.slice (some ⟨q, oq, none⟩) 2 cq))) ∧ Kp (fun _ => False) z w' ∧ z.heap.size ≤ q ∧ q < w'.heap.size ∧ (w'.cell? ⟨q, oq, none⟩ = some (.int .i64 0) ∧ w'.cell? ⟨q, oq + 1, none⟩ = some (.int .i64 1)) ∧ w'.cell? ⟨w.heap.size, 5, none⟩ = some (.slice (some ⟨b, o, none⟩) 2 c)) := fun z kz => by
    refine (H2.out z (k01.trans kz (fun _ _ e => e))).mono ?_
    rintro e w' ⟨q, cq, rfl, k2, f2⟩
    obtain ⟨q0, oq, rfl, hz, hc3⟩ := f2 0 _ rfl
    obtain ⟨q9, oq9, eq, _, hc4⟩ := f2 1 _ rfl
    obtain ⟨rfl, rfl⟩ : q9 = q0 ∧ oq9 = oq := by injection eq with eq; injection eq with x y; exact ⟨x.symm, y.symm⟩
    exact ⟨_, _, cq, rfl, k2, hz.1, hz.2, ⟨hc3, hc4⟩, k2.cellv (kz.cellv d5 id) id⟩
  clear H1 H2
  have k1d := (Kp.refl (fun _ => False) w1).drew
  have k1e := ((Kp.refl (fun _ => False) w1).alloc (.cells #[.slice none 0 0, .slice none 0 0] 22)).drew
  have k1f := (Kp.refl (fun _ => False) w1).alloc (.cells #[.slice none 0 0, .slice none 0 0] 22)
  have b0 := k1f.cellv d0 id
  have b1 := k1f.cellv d1 id
  have b2 := k1f.cellv d2 id
  have b3 := k1f.cellv d3 id
  have b4 := k1f.cellv d4 id
  have b5 := k1f.cellv d5 id
  clear k1f
  go_region_with (go_at_call 89; refine (H3.out _ (by first | exact k1d | exact k1e)).mono ?_; rintro e w2 ⟨q, oq, cq, rfl, k2, hq, hq2, f2, e5⟩)
  all_goals go_wp2
  all_goals go_ret2
  all_goals clear b0 b1 b2 b3 b4 b5 d0 d1 d2 d3 d4 d5 c0 c1 c2 c3 c4 c5 e5
  all_goals have s1 := HKW.out.size
  all_goals have s2 := k2.size
  all_goals have q1 := hq
  all_goals simp only [World.size_alloc, World.size_drew] at s2 q1
  all_goals first
    | (refine ⟨_, q, oq, cq, _, rfl, (((HKW.out.drew).trans k2 (fun _ _ e => e)).alloc _).alloc _, ?_, ?_, ?_, ⟨(by have hh := Lv.new (w2.alloc (.cells #[.slice none 0 0, .slice none 0 0] 22)) (fetA (bF n sm) (.slice (some ⟨q, oq, none⟩) 2 cq) (.slice (some ⟨w2.heap.size, 0, none⟩) 2 2) 0).toArray 143; rw [World.size_alloc] at hh; exact hh), (Lv.new _ _ _).keep ((Kp.refl (fun _ => False) _).alloc _) id, (((Kp.refl (fun _ => False) w2).alloc _).alloc _).cellv f2.1 id, (((Kp.refl (fun _ => False) w2).alloc _).alloc _).cellv f2.2 id, ?_, ?_, ?_⟩, ⟨(fun j hj => by have hh := exa_new (w2.alloc (.cells #[.slice none 0 0, .slice none 0 0] 22)) (fetA (bF n sm) (.slice (some ⟨q, oq, none⟩) 2 cq) (.slice (some ⟨w2.heap.size, 0, none⟩) 2 2) 0).toArray 143 j hj; rw [World.size_alloc] at hh; exact hh), (fun j hj => by rw [((Kp.refl (fun _ => False) (w2.alloc (.cells #[.slice none 0 0, .slice none 0 0] 22))).alloc _).cell (a := ⟨w2.heap.size, j, none⟩) (by simp) id]; exact exa_new w2 #[.slice none 0 0, .slice none 0 0] 22 j hj)⟩⟩ <;> omega)
    | (refine ⟨_, q, oq, cq, _, rfl, (((HKW.out.alloc _).drew).trans k2 (fun _ _ e => e)).alloc _, ?_, ?_, ?_, ⟨Lv.new _ _ _, (((Lv.new w1 #[.slice none 0 0, .slice none 0 0] 22).keep ((Kp.refl (fun _ => False) _).drew) id).keep k2 id).keep ((Kp.refl (fun _ => False) _).alloc _) id, ((Kp.refl (fun _ => False) w2).alloc _).cellv f2.1 id, ((Kp.refl (fun _ => False) w2).alloc _).cellv f2.2 id, ?_, ?_, ?_⟩, ⟨(fun j hj => exa_new w2 (fetA (bF n sm) (.slice (some ⟨q, oq, none⟩) 2 cq) (.slice (some ⟨w1.heap.size, 0, none⟩) 2 2) 0).toArray 143 j hj), (fun j hj => by rw [((((Kp.refl (fun _ => False) (w1.alloc (.cells #[.slice none 0 0, .slice none 0 0] 22))).drew).trans k2 (fun _ _ e => e)).alloc _).cell (a := ⟨w1.heap.size, j, none⟩) (by simp) id]; exact exa_new w1 #[.slice none 0 0, .slice none 0 0] 22 j hj)⟩⟩ <;> omega)

section
variable {w : World} {f g q oq cq n : Nat} {sm cnt : Int} {v0 : Value}
set_option maxRecDepth 100000 in
set_option maxHeartbeats 1600000 in
theorem flength2 (h : Fe2 w f g q oq cq n sm cnt v0) (hn : (n : Int) ≤ 400) (hL : Mf.lenOf 1 n = 8) : Calls Tryd.prog 55 #[.pointer (some ⟨f, 0, none⟩)] w fun e w' => e = .returned (.int .i64 8) ∧ Kp (fun _ => False) w w' := by
  have H : Hid (∀ z, Calls Tryd.prog 95 #[.agg #[.int .i64 1, .int .i64 1], .int .i64 (n : Int)] z fun e w' => e = .returned (.int .i64 8) ∧ Kp (fun _ => False) z w') := fun z => by
    have := length_ok 1 1 n z (by decide) (by decide) hn
    rw [hL] at this
    exact this
  have c1 := h.lf.cell (j := 1) rfl
  have c3 := h.lf.cell (j := 3) rfl
  have c4 := h.lf.cell (j := 4) rfl
  have HSw : Hid (∀ z, Kp (fun _ => False) w z → z.cell? ⟨f, 1, none⟩ = some (.int .i64 (n : Int)) ∧ z.cell? ⟨f, 3, none⟩ = some (.int .i64 1) ∧ z.cell? ⟨f, 4, none⟩ = some (.int .i64 1)) := fun z k => ⟨k.cellv c1 id, k.cellv c3 id, k.cellv c4 id⟩
  have kd : Kp (fun _ => False) w w.drew := (Kp.refl _ _).drew
  clear h hn hL
  go_enter Tryd.func55, Tryd.ntmps55
  go_wp2
  go_region_held3 (fun z => z.cell? ⟨f, 1, none⟩ = some (.int .i64 (n : Int)) ∧ z.cell? ⟨f, 3, none⟩ = some (.int .i64 1) ∧ z.cell? ⟨f, 4, none⟩ = some (.int .i64 1))
    (first
      | exact HSw.out _ kd
      | exact HSw.out _ k2)
    (first | (go_at_call 95; refine (H.out _).mono ?_; rintro e w2 ⟨rfl, kk⟩; have k2 := kd.trans kk (fun _ _ e => e)))
  go_wp2
  go_ret
  exact ⟨rfl, k2⟩

set_option maxRecDepth 100000 in
set_option maxHeartbeats 3200000 in
theorem fon2 (h : Fe2 w f g q oq cq n sm 0 (.slice none 0 0)) (hn : (n : Int) ≤ 400) (hL : Mf.lenOf 1 n = 8) (pb : Option Addr) (c : Nat) (xs : List Nat) (hx : Rb w pb 8 xs) :
    Calls Tryd.prog 60 #[.pointer (some ⟨f, 0, none⟩), .agg (msgF 13 0 4 0 true (.slice pb 8 c))] w fun e w' => e = .returned (.bool true) ∧ Kp (fun b => b = f ∨ b = g) w w' ∧ ∃ ps cs, Fe2 w' f g q oq cq n sm 1 (.slice ps 8 cs) ∧ Rb w' ps 8 xs ∧ 8 ≤ cs ∧ (∀ a, ps = some a → w.heap.size ≤ a.block) := by
  have k0 : Kp (fun _ => False) w (w.alloc (.cells (msgF 13 0 4 0 true (.slice pb 8 c)) 45)) := (Kp.refl _ _).alloc _
  have HB : Hid (Lv (w.alloc (.cells (msgF 13 0 4 0 true (.slice pb 8 c)) 45)) w.heap.size (msgF 13 0 4 0 true (.slice pb 8 c)).toList) := Lv.new w _ _
  have HF : Hid (Fe2 w f g q oq cq n sm 0 (.slice none 0 0) ∧ Rb w pb 8 xs) := ⟨h, hx⟩
  have HLe : Hid (∀ z, Kp (fun _ => False) w z → Calls _ _ _ z _) := fun z k => flength2 (h.keep0 k) hn hL
  have HLi : Hid (∀ z, Kp (fun _ => False) w z → Calls Tryd.prog 96 #[.agg (msgF 13 0 4 0 true (.slice pb 8 c)), .int .i64 4, .slice (some ⟨q, oq, none⟩) 2 cq] z _) := fun z k => lies_yes 13 0 4 0 2 cq true (.slice pb 8 c) _ _ [0, 1] z (fl01 (k.cellv h.q0 id) (k.cellv h.q1 id)) (by decide) rfl rfl
  have HLT : Hid (f < w.heap.size ∧ g < w.heap.size ∧ f ≠ g ∧ q ≠ f ∧ q ≠ g) := ⟨h.lt.1, h.lt.2.1, h.ne.1, h.ne.2.1, h.ne.2.2⟩
  obtain ⟨mv, hmv⟩ : ∃ mv : Array Value, mv = msgF 13 0 4 0 true (.slice pb 8 c) := ⟨_, rfl⟩
  have HMV : Hid (mv = msgF 13 0 4 0 true (.slice pb 8 c)) := hmv
  rw [← hmv] at HB k0 HLi ⊢
  clear h hx hn hL hmv
  go_enter Tryd.func60, Tryd.ntmps60
  go_wp2
  obtain ⟨u, hu⟩ : ∃ x, x = w.alloc (.cells mv 45) := ⟨_, rfl⟩
  obtain ⟨bx, hbx⟩ : ∃ x, x = w.heap.size := ⟨_, rfl⟩
  rw [← hu, ← hbx] at HB
  rw [← hu] at k0
  rw [← hu, ← hbx]
  have HBX : Hid (bx = w.heap.size) := hbx
  clear hu hbx
  have kd : Kp (fun _ => False) u u.drew := (Kp.refl _ _).drew
  have HMs : Hid (∀ z, Lv z bx mv.toList → (loadVar 45 ⟨bx, 0, none⟩).run Tryd.prog z = .ok (.agg mv) z ∧ z.cell? ⟨bx, 0, none⟩ = some (.int .i64 13) ∧ z.cell? ⟨bx, 6, none⟩ = some (.int .i64 0) ∧ z.cell? ⟨bx, 9, none⟩ = some (.bool true) ∧ z.cell? ⟨bx, 23, none⟩ = some (.slice pb 8 c)) := fun z hz => by
    have hld := hz.load dsMsg szMsg (by rw [HMV.out]; rfl)
    rw [Array.toArray_toList] at hld
    rw [HMV.out] at hz
    exact ⟨hld, hz.cell (j := 0) rfl, hz.cell (j := 6) rfl, hz.cell (j := 9) rfl, hz.cell (j := 23) rfl⟩
  have HS1 : Hid (∀ z, Kp (fun _ => False) u z → z.cell? ⟨bx, 0, none⟩ = some (.int .i64 13) ∧ z.cell? ⟨bx, 9, none⟩ = some (.bool true) ∧ z.cell? ⟨bx, 23, none⟩ = some (.slice pb 8 c)) := fun z k => by
    obtain ⟨_, a1, _, a3, a4⟩ := HMs.out z (HB.out.keep k id)
    exact ⟨a1, a3, a4⟩
  refine fp1_region ⟨by kernel_rfl, by kernel_rfl, by kernel_rfl, by kernel_rfl, by kernel_rfl, by kernel_rfl, by kernel_rfl, by kernel_rfl, by kernel_rfl, by kernel_rfl, by kernel_rfl, by kernel_rfl, by kernel_rfl, by kernel_rfl, by kernel_rfl, by kernel_rfl, by kernel_rfl, by kernel_rfl, by kernel_rfl, by kernel_rfl, by kernel_rfl, by kernel_rfl⟩ bx f c pb (fun d _ _ _ _ h => by cases d <;> exact h) (by rfl) (by rfl) (by rfl) (HS1.out _ kd) (fun z => Kp (fun _ => False) u z) ((HLe.out _ (k0.trans kd (fun _ _ e => e))).mono ?_) ?_
  · rintro e z ⟨rfl, kz⟩
    have k1 := kd.trans kz (fun _ _ e => e)
    exact ⟨rfl, HS1.out z k1, k1⟩
  intro z1 hT
  simp only [Act.put, List.setIfInBounds_toArray, List.set_cons_succ, List.set_cons_zero]
  have HZ1 : Hid (Kp (fun _ => False) u z1) := hT
  clear hT kd HS1 HLe
  go_wp2
  have kd : Kp (fun _ => False) z1 z1.drew := (Kp.refl _ _).drew
  have ku1 := HZ1.out.trans kd (fun _ _ e => e)
  have HS3 : Hid (∀ z, Kp (fun _ => False) u z → (loadVar 45 ⟨bx, 0, none⟩).run Tryd.prog z = .ok (.agg mv) z ∧ z.cell? ⟨bx, 6, none⟩ = some (.int .i64 0) ∧ z.cell? ⟨f, 0, none⟩ = some (.int .i64 4) ∧ z.cell? ⟨f, 5, none⟩ = some (.slice (some ⟨q, oq, none⟩) 2 cq) ∧ z.cell? ⟨f, 6, none⟩ = some (.slice (some ⟨g, 0, none⟩) 2 2) ∧ z.cell? ⟨g, 0, none⟩ = some (.slice none 0 0)) := fun z k => by
    obtain ⟨a0, _, a2, _, _⟩ := HMs.out z (HB.out.keep k id)
    have hf := HF.out.1.keep0 (k0.trans k (fun _ _ e => e))
    exact ⟨a0, a2, hf.lf.cell (j := 0) rfl, hf.lf.cell (j := 5) rfl, hf.lf.cell (j := 6) rfl, hf.lg.cell (j := 0) rfl⟩
  refine fp3_region ⟨by kernel_rfl, by kernel_rfl, by kernel_rfl, by kernel_rfl, by kernel_rfl, by kernel_rfl, by kernel_rfl, by kernel_rfl, by kernel_rfl, by kernel_rfl, by kernel_rfl, by kernel_rfl, by kernel_rfl, by kernel_rfl, by kernel_rfl, by kernel_rfl, by kernel_rfl, by kernel_rfl, by kernel_rfl, by kernel_rfl, by kernel_rfl, by kernel_rfl, by kernel_rfl, by kernel_rfl, by kernel_rfl, by kernel_rfl, by kernel_rfl, by kernel_rfl, by kernel_rfl, by kernel_rfl, by kernel_rfl⟩ bx f g q oq cq mv (fun d _ _ _ _ h => by cases d <;> exact h) (by rfl) (by rfl) (by rfl) (HS3.out _ ku1) (fun z => Kp (fun _ => False) u z) ((HLi.out _ (k0.trans ku1 (fun _ _ e => e))).mono ?_) ?_
  · rintro e z ⟨rfl, kz⟩
    have k1 := ku1.trans kz (fun _ _ e => e)
    exact ⟨rfl, HS3.out z k1, k1⟩
  intro z2 hT
  simp only [Act.put, List.setIfInBounds_toArray, List.set_cons_succ, List.set_cons_zero]
  have HZ2 : Hid (Kp (fun _ => False) u z2) := hT
  clear hT kd HS3 HLi HZ1 ku1
  go_wp2
  have kd : Kp (fun _ => False) z2 z2.drew := (Kp.refl _ _).drew
  have ku2 := HZ2.out.trans kd (fun _ _ e => e)
  have kw2 := k0.trans ku2 (fun _ _ e => e)
  have HS5 : Hid (∀ z, Lv z bx mv.toList → Lv z f (fetA (bF n sm) (.slice (some ⟨q, oq, none⟩) 2 cq) (.slice (some ⟨g, 0, none⟩) 2 2) 0) → z.cell? ⟨f, 6, none⟩ = some (.slice (some ⟨g, 0, none⟩) 2 2) ∧ z.cell? ⟨bx, 6, none⟩ = some (.int .i64 0) ∧ z.cell? ⟨bx, 23, none⟩ = some (.slice pb 8 c)) := fun z h1 h2 => by
    obtain ⟨_, _, a2, _, a4⟩ := HMs.out z h1
    exact ⟨h2.cell (j := 6) rfl, a2, a4⟩
  have f2 := HF.out.1.keep0 kw2
  refine fp5_region ⟨by kernel_rfl, by kernel_rfl, by kernel_rfl, by kernel_rfl, by kernel_rfl, by kernel_rfl, by kernel_rfl, by kernel_rfl, by kernel_rfl, by kernel_rfl, by kernel_rfl, by kernel_rfl, by kernel_rfl, by kernel_rfl, by kernel_rfl, by kernel_rfl, by kernel_rfl, by kernel_rfl⟩ bx f g pb c (fun d _ _ _ _ h => by cases d <;> exact h) (by rfl) (by rfl) (by rfl) (HS5.out _ (HB.out.keep ku2 id) f2.lf) (fun z => Kp (fun b => b = g) w z ∧ ∃ ps cs, Fe2 z f g q oq cq n sm 0 (.slice ps 8 cs) ∧ Rb z ps 8 xs ∧ 8 ≤ cs ∧ (∀ a, ps = some a → w.heap.size ≤ a.block)) ((clone_any pb 8 c xs _ (HF.out.2.keep0 kw2) (by show _ ≤ _; decide)).mono ?_) ?_
  · rintro e z ⟨v, rfl, kz, ho⟩
    have hlen : xs.length = 8 := HF.out.2.len
    obtain ⟨ps, cs, rfl, hcs, hrb, hps⟩ := ho.rb (fun x hx => HF.out.2.byte x hx)
    have hbk : ∀ a, ps = some a → a.block < z.heap.size := fun a ha => (ownBlock_lt ho (hps a ha).2).2
    rw [hlen] at hrb hcs ⊢
    have kwz := kw2.trans kz (fun _ _ e => e)
    have fz := HF.out.1.keep0 kwz
    have bz := HB.out.keep (ku2.trans kz (fun _ _ e => e)) id
    have hlt := HLT.out
    have hbx := HBX.out
    have ks : Kp (fun b => b = g) z (z.setCell ⟨g, 0, none⟩ (.slice ps 8 cs)) := (Kp.refl (fun b => b = g) z).setCell (fun _ => rfl) _
    have hw2 := kw2.size
    have hfe : Lv (z.setCell ⟨g, 0, none⟩ (.slice ps 8 cs)) f (fetA (bF n sm) (.slice (some ⟨q, oq, none⟩) 2 cq) (.slice (some ⟨g, 0, none⟩) 2 2) 0) := fz.lf.keep ks hlt.2.2.1
    refine ⟨ps, cs, rfl, HS5.out _ bz fz.lf, HS5.out _ (bz.keep ks (fun e => by have e' : bx = g := e; omega)) hfe, fz.lg.cell (j := 0) rfl, fz.lg.fz (j := 0) (by simp), (kwz.mono (fun _ _ e => e.elim)).trans ks (fun _ _ e => e), ps, cs, ⟨hfe, fz.lg.set1 0 _ (by simp), ks.cellv fz.q0 hlt.2.2.2.2, ks.cellv fz.q1 hlt.2.2.2.2, fz.ne⟩, hrb.keep ks (fun a ha _ e => ?_), hcs, fun a ha => ?_⟩
    · have := (hps a ha).1
      have e' : a.block = g := e
      omega
    · have := (hps a ha).1
      omega
  intro ps0 cs0 z9 hT
  simp only [Act.put, List.setIfInBounds_toArray, List.set_cons_succ, List.set_cons_zero]
  obtain ⟨y, hy⟩ : ∃ y, y = z9.setCell ⟨g, 0, none⟩ (.slice ps0 8 cs0) := ⟨_, rfl⟩
  rw [← hy] at hT ⊢
  obtain ⟨kwy, ps, cs, fy, rby, hcs, hps⟩ := hT
  have c7 := fy.lf.cell (j := 7) rfl
  have f7 := fy.lf.fz (j := 7) (by simp)
  have HY : Hid (Kp (fun b => b = g) w y ∧ Fe2 y f g q oq cq n sm 0 (.slice ps 8 cs) ∧ Rb y ps 8 xs ∧ 8 ≤ cs ∧ (∀ a, ps = some a → w.heap.size ≤ a.block)) := ⟨kwy, fy, rby, hcs, hps⟩
  clear hy kwy fy rby hcs hps kd ku2 kw2 HS5 f2 HZ2 HMs
  go_wp2
  go_ret
  obtain ⟨kwy, fy, rby, hcs, hps⟩ := HY.out
  have hlt := HLT.out
  have ks : Kp (fun b => b = f) y (y.setCell ⟨f, 7, none⟩ (.int .i64 1)) := (Kp.refl (fun b => b = f) y).setCell (fun _ => rfl) _
  refine ⟨rfl, (kwy.mono (fun _ _ e => Or.inr e)).trans ks (fun b _ e => Or.inl e), ps, cs, ⟨fy.lf.set1 7 _ (by simp), fy.lg.keep ks (fun e => hlt.2.2.1 e.symm), ks.cellv fy.q0 hlt.2.2.2.1, ks.cellv fy.q1 hlt.2.2.2.1, fy.ne⟩, rby.keep ks (fun a ha _ e => ?_), hcs, hps⟩
  have h1 := hps a ha
  have e' : a.block = f := e
  omega
end
end Go.Proofs.YtmncocmeafcpfaaDoor

/- A fetch of two shards: Enough, Came, Blob, Forget, Asks; clone.Recode; recode.New. -/
namespace Go.Proofs.YtmncocmeafcpfaaDoor
set_option linter.unusedVariables false
set_option linter.unusedSimpArgs false
open Go.RowKit Go.Deep

section
variable {w : World} {f g q oq cq n : Nat} {sm cnt : Int} {v0 : Value}
set_option maxRecDepth 100000 in
set_option maxHeartbeats 800000 in
theorem enough2 (h : Fe2 w f g q oq cq n sm cnt v0) : Calls Tryd.prog 92 #[.pointer (some ⟨f, 0, none⟩)] w fun e w' => e = .returned (.bool (decide (cnt ≥ 1))) ∧ Kp (fun _ => False) w w' := by
  have c7 := h.lf.cell (j := 7) rfl
  have c3 := h.lf.cell (j := 3) rfl
  clear h
  go_enter Tryd.func92, Tryd.ntmps92
  go_wp2
  go_quiet (fail)
  go_wp2
  go_ret
  exact ⟨rfl, (Kp.refl _ _).drewN _⟩
set_option maxRecDepth 100000 in
set_option maxHeartbeats 800000 in
theorem came2 (h : Fe2 w f g q oq cq n sm cnt v0) : Calls Tryd.prog 91 #[.pointer (some ⟨f, 0, none⟩)] w fun e w' => e = .returned (.slice (some ⟨g, 0, none⟩) 2 2) ∧ w' = w := by
  have c6 := h.lf.cell (j := 6) rfl
  clear h
  go_enter Tryd.func91, Tryd.ntmps91
  go_wp2
  go_ret
  exact ⟨rfl, rfl⟩
set_option maxRecDepth 100000 in
set_option maxHeartbeats 1600000 in
theorem blob2 (h : Fe2 w f g q oq cq n sm cnt v0) : Calls Tryd.prog 94 #[.pointer (some ⟨f, 0, none⟩)] w fun e w' => e = .returned (.agg (blobA (bF n sm) (.slice (some ⟨q, oq, none⟩) 2 cq))) ∧ Kp (fun _ => False) w w' := by
  have k0 : Kp (fun _ => False) w (w.alloc (.cells zeroB 33)) := (Kp.refl _ _).alloc _
  have HL : Hid (Lv (w.alloc (.cells zeroB 33)) w.heap.size zeroB.toList) := Lv.new w _ _
  have lf := h.lf.keep k0 id
  have HR : Hid ((w.alloc (.cells zeroB 33)).rangeAt f 0 (blobA (bF n sm) (.slice (some ⟨q, oq, none⟩) 2 cq)).toList) := fun j u hu => by
    have hj : j < 6 := by have := (List.getElem?_eq_some_iff.1 hu).1; simpa using this
    exact lf.r j u (by rw [← hu]; rcases j with _ | _ | _ | _ | _ | _ | j <;> first | rfl | omega)
  have HO : Hid ((blobA (bF n sm) (.slice (some ⟨q, oq, none⟩) 2 cq)).toList.toArray.all (·.oneCell') = true) := blob_one _ rfl
  obtain ⟨db, hb1, hb2⟩ := dsBlob
  clear h lf
  go_enter Tryd.func94, Tryd.ntmps94
  go_wp2_with (first
    | (refine wpList_load_mid rfl 33 _ rfl f 0 rfl (blobA (bF n sm) (.slice (some ⟨q, oq, none⟩) 2 cq)).toList db HR.out hb1 hb2 (by rw [szBlob]; rfl) ?_)
    | (refine wpList_store_all rfl 33 _ _ rfl 6 w.heap.size zeroB.toList (blobA (bF n sm) (.slice (some ⟨q, oq, none⟩) 2 cq)).toList rfl rfl HL.out szBlob rfl rfl HO.out ?_; intro w3 hl3 k3))
  refine bodyPost_ret (res_cell Tryd.results94 _ _ w.heap.size _ rfl (hl3.load ⟨db, hb1, hb2⟩ szBlob rfl)) rfl ?_
  exact ⟨rfl, k0.trans k3 (fun b hb e => by omega)⟩

theorem clear2 (w : World) (g : Nat) (v0 v1 : Value) (h : Lv w g [v0, v1]) (ty : TypeId) : (Builtin.clear_ #[27] ty #[.slice (some ⟨g, 0, none⟩) 2 2]).run Tryd.prog w = .ok (.tuple #[]) ((w.setCell ⟨g, 0, none⟩ (.slice none 0 0)).setCell ⟨g, 1, none⟩ (.slice none 0 0)) := by
  have := Go.Lib.run_clear_slice (P := Tryd.prog) w 27 22 ty (.slice none 0 0) Tryd.underlying27 (fun w => by kernel_rfl) rfl rfl g 0 2 2 (by omega) (fun j hj => by
    rcases j with _ | _ | j
    · rw [h.cell (j := 0) rfl]; rfl
    · rw [h.cell (j := 1) rfl]; rfl
    · omega) (fun j hj => by
    rcases j with _ | _ | j
    · exact h.fz (j := 0) (by simp)
    · exact h.fz (j := 1) (by simp)
    · omega)
  rw [this]
  rfl
end

abbrev recA (ph self : Int) (nv fp sp : Value) : List Value := [.int .i64 ph, .int .i64 self, .int .i64 4, .int .i64 6, .int .i64 1, .int .i64 0, nv, fp, sp]
abbrev rcdA (nv : Value) : Array Value := #[.int .i64 4, .int .i64 6, .int .i64 1, .int .i64 0, nv]
theorem szRcd : (Tryd.prog.info? 66).map (·.size) = some 5 := by kernel_rfl
theorem dsRcd : ∃ d, Tryd.prog.underlying 66 = some d ∧ d.isRow = true := ⟨_, Tryd.underlying66, rfl⟩
end Go.Proofs.YtmncocmeafcpfaaDoor

/- A fetch of two shards: Forget, Asks of none that came. -/
namespace Go.Proofs.YtmncocmeafcpfaaDoor
set_option linter.unusedVariables false
set_option linter.unusedSimpArgs false
open Go.RowKit Go.Deep

section
variable {w : World} {f g q oq cq n : Nat} {sm cnt : Int} {v0 : Value}
set_option maxRecDepth 100000 in
set_option maxHeartbeats 800000 in
theorem forget2 (h : Fe2 w f g q oq cq n sm cnt v0) : Calls Tryd.prog 116 #[.pointer (some ⟨f, 0, none⟩)] w fun e w' => e = .returned (.tuple #[]) ∧ Kp (fun b => b = f ∨ b = g) w w' ∧ Fe2 w' f g q oq cq n sm 0 (.slice none 0 0) := by
  have c6 := h.lf.cell (j := 6) rfl
  have hcl := fun ty => clear2 w g v0 _ h.lg ty
  have l1 : Lv (w.setCell ⟨g, 0, none⟩ (.slice none 0 0)) g [.slice none 0 0, .slice none 0 0] := h.lg.set1 0 _ (by simp)
  have l2 : Lv ((w.setCell ⟨g, 0, none⟩ (.slice none 0 0)).setCell ⟨g, 1, none⟩ (.slice none 0 0)) g [.slice none 0 0, .slice none 0 0] := l1.set1 1 _ (by simp)
  have k2 : Kp (fun b => b = g) w ((w.setCell ⟨g, 0, none⟩ (.slice none 0 0)).setCell ⟨g, 1, none⟩ (.slice none 0 0)) := ((Kp.refl (fun b => b = g) w).setCell (fun _ => rfl) _).setCell (fun _ => rfl) _
  obtain ⟨z, hz⟩ : ∃ z, z = ((w.setCell ⟨g, 0, none⟩ (.slice none 0 0)).setCell ⟨g, 1, none⟩ (.slice none 0 0)) := ⟨_, rfl⟩
  rw [← hz] at hcl l2 k2
  have lf := h.lf.keep k2 h.ne.1
  have c7 := lf.cell (j := 7) rfl
  have f7 := lf.fz (j := 7) (by simp)
  have HH : Hid (Kp (fun b => b = f ∨ b = g) w (z.setCell ⟨f, 7, none⟩ (.int .i64 0)) ∧ Fe2 (z.setCell ⟨f, 7, none⟩ (.int .i64 0)) f g q oq cq n sm 0 (.slice none 0 0)) := by
    have ks : Kp (fun b => b = f) z (z.setCell ⟨f, 7, none⟩ (.int .i64 0)) := (Kp.refl (fun b => b = f) z).setCell (fun _ => rfl) _
    exact ⟨(k2.mono (fun _ _ e => Or.inr e)).trans ks (fun b _ e => Or.inl e), lf.set1 7 _ (by simp), l2.keep ks (fun e => h.ne.1 e.symm), ks.cellv (k2.cellv h.q0 h.ne.2.2) h.ne.2.1, ks.cellv (k2.cellv h.q1 h.ne.2.2) h.ne.2.1, h.ne⟩
  clear h hz l1 l2 k2 lf
  go_enter Tryd.func116, Tryd.ntmps116
  go_wp2
  go_end0
  exact ⟨rfl, HH.out⟩

theorem infoM0 : (Tryd.prog.info? 45).map (fun i => (i.zero.map (·.cells.size), i.size, i.bytes)) = some (some 24, 24, 248) := by kernel_rfl
theorem infoM : ∃ i z, Tryd.prog.info? 45 = some i ∧ i.zero = some z ∧ i.size = 24 ∧ i.bytes = 248 ∧ z.cells.size = 24 := by
  obtain ⟨i, hi, he⟩ := Option.map_eq_some_iff.1 infoM0
  simp only [Prod.mk.injEq] at he
  obtain ⟨h1, h2, h3⟩ := he
  obtain ⟨z, hz, h4⟩ := Option.map_eq_some_iff.1 h1
  exact ⟨i, z, hi, hz, h2, h3, h4⟩
theorem uMs : Tryd.prog.underlying 54 = some (.slice 45) := Tryd.underlying54
theorem wpList_app_msg {ops : Array Oper} {rest : List Oper} {o : Oper} {a : Act} {Q : Exit → Act → World → Prop} {W : World} (mv : Array Value) (hm : mv.toList.length = 24) (h1c : ∀ u ∈ mv.toList, u.oneCell' = true) (hgd : o.guard = none) (s y : Operand)
    (ho : o.op = .call { callee := .builtin .append, args := #[s, y], argTypes := #[54, 54] })
    (base k : Nat) (v : Value) (xs : List Value) (hs : a.eval s = v) (gg : Nat) (hx0 : a.eval y = .slice (some ⟨gg, 0, none⟩) 1 1) (hgg : gg = W.heap.size) (hown : W.ownsRow base 45 24 v k xs) (hl : k ≤ 1000) (hb : base ≤ W.heap.size)
    (h : ∀ v' w', w'.ownsRow base 45 24 v' (k + 1) (xs ++ mv.toList) → Kp (fun b => v.ownBlock = some b) W w' → wpList Tryd.prog ops Q rest (a.put o.dst v') w') :
    wpList Tryd.prog ops Q (o :: rest) a (W.alloc (.cells mv 45)) := by
  subst hgg
  obtain ⟨ti, tz, hi1, hi2, hi3, hi4, hi5⟩ := infoM
  have k5 : Kp (fun _ => False) W (W.alloc (.cells mv 45)) := (Kp.refl _ _).alloc _
  have hx5 : Lv (W.alloc (.cells mv 45)) W.heap.size mv.toList := Lv.new W _ _
  refine wpList_append_own_src _ hgd s y 54 54 ho base 45 ti tz 24 248 uMs hi1 hi2 hi3 hi4 hi5 (by decide) v k xs hs (ownsRow_keep hown k5 (fun _ _ e => e)) (.slice (some ⟨W.heap.size, 0, none⟩) 1 1) 1 mv.toList hx0 (Src.ofSlice _ uMs ⟨W.heap.size, 0, none⟩ 1 1 mv.toList (by rw [hm]) (fun j u hj => by rw [Addr.add_mid, Nat.zero_add]; exact hx5.cell hj) h1c) (by unfold maxLen; omega) (by omega) (by simp; omega) ?_
  intro v' w' h1 h2 h3
  exact h v' w' h1 (k5.mono (fun _ _ e => e.elim) |>.trans (grownBy_kp h2) (fun b _ e => e))
set_option maxRecDepth 100000 in
set_option maxHeartbeats 3200000 in
theorem fasks2 (h : Fe2 w f g q oq cq n sm cnt (.slice none 0 0)) (self ep : Int) : Calls Tryd.prog 54 #[.pointer (some ⟨f, 0, none⟩), .int .i64 self, .int .i64 ep] w fun e w' => ∃ p c, e = .returned (.slice p 2 c) ∧ Kp (fun _ => False) w w' := by
  have HF : Hid (Fe2 w f g q oq cq n sm cnt (.slice none 0 0)) := h
  have c5 := h.lf.cell (j := 5) rfl
  clear h
  go_enter Tryd.func54, Tryd.ntmps54
  go_wp2
  clear c5
  go_loopg [7, 16] 2 (fun gk rv i wr => ∃ (k : Nat) (xs : List Value), k ≤ 2 ∧ gk = 2 - k ∧ i = .int .i64 k ∧ Hid (Kp (fun _ => False) w wr) ∧ Hid (wr.ownsRow w.heap.size 45 24 rv k xs))
  case atStart => exact ⟨0, [], by omega, rfl, rfl, Kp.refl _ _, World.ownsRow_nil _ _ _ _⟩
  case round =>
    obtain ⟨k, xs, hk, rfl, rfl, HK, HO⟩ := hrel
    obtain ⟨wr0, rfl⟩ : ∃ x, x = wr := ⟨_, rfl⟩
    have hf := HF.out.keep0 HK.out
    by_cases hlt : (k : Int) < 2
    · obtain ⟨nk, hq⟩ : ∃ nk : Int, wr0.cell? ⟨q, oq + k, none⟩ = some (.int .i64 nk) := by
        have hk2 : k = 0 ∨ k = 1 := by omega
        rcases hk2 with rfl | rfl
        · exact ⟨0, hf.q0⟩
        · exact ⟨1, hf.q1⟩
      have hg : wr0.cell? ⟨g, k, none⟩ = some (.slice none 0 0) := by
        have hk2 : k = 0 ∨ k = 1 := by omega
        rcases hk2 with rfl | rfl
        · exact hf.lg.cell (j := 0) rfl
        · exact hf.lg.cell (j := 1) rfl
      have c0 := hf.lf.cell (j := 0) rfl
      have c6 := hf.lf.cell (j := 6) rfl
      have HSZ : Hid (w.heap.size ≤ wr0.heap.size) := HK.out.size
      clear hf
      go_wp2_with (at_builtin; refine wpList_app_msg #[.int .i64 12, .int .i64 self, .int .i64 nk, .int .i64 0, .int .i64 0, .int .i64 4, .int .i64 (k : Int), .int .i64 ep, .int .i64 0, .bool false, .int .i64 0, .int .i64 0, .string ⟨#[]⟩, .int .i64 0, .int .i64 0, .int .i64 0, .int .i64 0, .int .i64 0, .int .u32 0, .int .i64 0, .int .i64 0, .slice none 0 0, .slice none 0 0, .slice none 0 0] rfl (fun u hu => by simp only [List.mem_cons, List.not_mem_nil, or_false] at hu; rcases hu with rfl | rfl | rfl | rfl | rfl | rfl | rfl | rfl | rfl | rfl | rfl | rfl | rfl | rfl | rfl | rfl | rfl | rfl | rfl | rfl | rfl | rfl | rfl | rfl <;> rfl) rfl _ _ rfl w.heap.size k _ xs rfl wr0.heap.size rfl rfl HO.out (by omega) HSZ.out ?_; intro v2 w2 ho2 k2; have HO2 : Hid (w2.ownsRow w.heap.size 45 24 v2 (k + 1) (xs ++ (#[.int .i64 12, .int .i64 self, .int .i64 nk, .int .i64 0, .int .i64 0, .int .i64 4, .int .i64 (k : Int), .int .i64 ep, .int .i64 0, .bool false, .int .i64 0, .int .i64 0, .string ⟨#[]⟩, .int .i64 0, .int .i64 0, .int .i64 0, .int .i64 0, .int .i64 0, .int .u32 0, .int .i64 0, .int .i64 0, .slice none 0 0, .slice none 0 0, .slice none 0 0] : Array Value).toList)) := ho2; have HK2 : Hid (Kp (fun _ => False) w w2) := HK.out.trans k2 (fun b hb e => absurd (ownBlock_lt HO.out e).1 (by omega)); clear ho2 k2)
      go_roundg (2 - (k + 1))
      case rel => exact ⟨k + 1, _, by omega, rfl, by go_num, HK2, HO2⟩
      case measure => omega
    · obtain rfl : k = 2 := by omega
      obtain ⟨p, c, e, _⟩ := own_fl HO.out
      subst e
      clear hf
      go_wp2
      go_ret
      exact ⟨⟨p, c, rfl⟩, HK.out⟩
end
end Go.Proofs.YtmncocmeafcpfaaDoor

/- stripe.Join of one shard of a blob of code {1, 1}. -/
namespace Go.Proofs.YtmncocmeafcpfaaDoor
set_option linter.unusedVariables false
set_option linter.unusedSimpArgs false
open Go.RowKit Go.Deep

abbrev L10 : Nat → Nat := fun r => if r = 0 then 8 else 0
theorem join1 (w : World) (g cs n : Nat) (ps : Option Addr) (xs : List Nat) (lg : Lv w g [.slice ps 8 cs, .slice none 0 0]) (hx : Rb w ps 8 xs) (h1 : 1 ≤ n) (h8 : n ≤ 8) (hp : Mf.Pows w) :
    Calls Tryd.prog 115 #[.agg #[.int .i64 1, .int .i64 1], .int .i64 (n : Int), .slice (some ⟨g, 0, none⟩) 2 2] w fun e w' => ∃ jb, e = .returned (.tuple #[.slice (some ⟨jb, 0, none⟩) n n, .int .i64 0]) ∧ Kp (fun _ => False) w w' ∧ Rb w' (some ⟨jb, 0, none⟩) n (xs.take n) := by
  obtain ⟨pb, po, rfl, hc⟩ := hx.pt (by omega)
  have hL : Mf.lenOf 1 n = 8 := by
    unfold Mf.lenOf Mf.stripesOf
    omega
  let s : Mf.Sh := ⟨some ⟨g, 0, none⟩, 2, 2, g, 0, fun r => if r = 0 then some ⟨pb, po, none⟩ else none, L10, fun r => if r = 0 then cs else 0, fun _ => pb, fun _ => po, fun r c => if r = 0 then xs.getD c 0 else 0⟩
  have hs : Mf.Rd w s := by
    refine ⟨fun _ => rfl, fun r hr => ?_, fun r hr c hcc => ?_, fun r hr c hcc => ?_, fun r c => ?_⟩
    · have hr2 : r < 2 := hr
      rcases r with _ | _ | r
      · exact lg.cell (j := 0) rfl
      · exact lg.cell (j := 1) rfl
      · omega
    · have hr2 : r < 2 := hr
      rcases r with _ | _ | r
      · rfl
      · exact absurd hcc (show ¬ c < 0 by omega)
      · omega
    · have hr2 : r < 2 := hr
      rcases r with _ | _ | r
      · exact hc c hcc
      · exact absurd hcc (show ¬ c < 0 by omega)
      · omega
    · show (if r = 0 then xs.getD c 0 else 0) < 256
      split
      · exact hx.byteAt c
      · omega
  have hf : Mf.firstK L10 2 1 = [0] := by decide
  refine (Mf.join_yes 1 1 n s w hs rfl (by decide) (by decide) (by omega) (fun r hr => ?_) (show Mf.alikeTo L10 2 2 = true by decide) (show 1 ≤ (Mf.thereTo L10 2).length by decide) (by rw [hL]; show Mf.len0 L10 2 = 8; decide) hp).mono ?_
  · rw [hL]
    rcases r with _ | _ | r
    · show Mf.oddLen 8 8 = false; decide
    · show Mf.oddLen 0 8 = false; decide
    · omega
  rintro e w' ⟨jb, W, rfl, hk, hE, hrow⟩
  refine ⟨jb, rfl, kp_of hk, by rw [List.length_take, hx.len]; omega, fun x hx' => hx.byte x (List.mem_of_mem_take hx'), fun j hj => ⟨jb, 0, rfl, ?_⟩⟩
  have := hrow.cell (i := j) hj
  rw [Nat.zero_add, this]
  have hD : ∀ i j : Nat, (fun _ c => xs.getD c 0 : Nat → Nat → Nat) i j < 256 := fun i j => hx.byteAt j
  have hdec := Mf.decM_enc (K := 1) (D := fun _ c => xs.getD c 0) hD (xs := Mf.firstK s.L (1 + 1) 1) hE (M := s.M) (p := Mf.seatAt 1 j) (fun i hi => by
    obtain rfl : i = 0 := by omega
    have hf' : Mf.firstK s.L (1 + 1) 1 = [0] := hf
    rw [hf']
    show (if (0 : Nat) = 0 then xs.getD _ 0 else 0) = Mf.enc 1 _ 0 _
    rw [Mf.enc_data hD (by decide)]
    rfl) (fun r => r) (Mf.seatK 1 j)
  have e1 : Mf.seatK 1 j = 0 := by unfold Mf.seatK; omega
  have e2 : Mf.seatAt 1 j = j := by unfold Mf.seatAt; omega
  show some (Value.int .u8 ((Mf.decM 1 s.M (Mf.firstK s.L (1 + 1) 1) W (fun r => r) (Mf.seatK 1 j) (Mf.seatAt 1 j) : Nat) : Int)) = _
  rw [hdec, e1, e2, Mf.enc_data hD (by decide)]
  rw [List.getD_eq_getElem?_getD, List.getD_eq_getElem?_getD, List.getElem?_take_of_lt hj]
end Go.Proofs.YtmncocmeafcpfaaDoor
