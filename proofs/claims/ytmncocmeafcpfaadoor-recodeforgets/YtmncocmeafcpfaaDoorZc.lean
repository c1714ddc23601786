/- Calls of clients in memory; a delete, from its beginning to its end. -/
import Derived.Test.YtmncocmeafcpfaaDoorZb
import Derived.Test.YtmncocmeafcpfaaDoorYb
namespace Go.Proofs.YtmncocmeafcpfaaDoor
set_option linter.unusedVariables false
set_option linter.unusedSimpArgs false
open Go.RowKit Go.Deep

/-- a call, cell by cell -/
abbrev callA (self aid now : Int) (c : Cs0) (nv : Value) (dn : Bool) (wh st ft : Value) : List Value :=
  [.int .i64 self, .int .i64 aid, .int .i64 now, .int .i64 c.id, .int .i64 c.kind, .string c.key, .int .i64 c.blob, .int .i64 c.other, .int .i64 c.index, .int .i64 c.node, .int .i64 c.size, .int .u32 c.sum, .int .i64 c.k, .int .i64 c.m, nv, .bool dn, wh, st, ft]
theorem szCall : (Tryd.prog.info? 106).map (·.size) = some 19 := by kernel_rfl

set_option maxRecDepth 100000 in
set_option maxHeartbeats 400000 in
theorem cmade (b : Nat) (i : Int) (w : World) (hc : w.cell? ⟨b, 3, none⟩ = some (.int .i64 i)) (hi : 0 < i) : Calls Tryd.prog 71 #[.pointer (some ⟨b, 0, none⟩)] w fun e w' => e = .returned (.bool true) ∧ w' = w := by
  go_enter Tryd.func71, Tryd.ntmps71
  go_wp2
  go_ret
  exact ⟨by simp [hi], rfl⟩

set_option maxRecDepth 100000 in
set_option maxHeartbeats 400000 in
theorem copen (b : Nat) (i : Int) (dn : Bool) (w : World) (hc : w.cell? ⟨b, 3, none⟩ = some (.int .i64 i)) (hi : 0 < i) (hd : w.cell? ⟨b, 15, none⟩ = some (.bool dn)) : Calls Tryd.prog 75 #[.pointer (some ⟨b, 0, none⟩)] w fun e w' => e = .returned (.bool (!dn)) ∧ w' = w := by
  have H : Hid (Calls _ _ _ w _) := cmade b i w hc hi
  clear hc hi
  go_enter Tryd.func75, Tryd.ntmps75
  go_wp2_with (go_at_call 71; refine H.out.mono ?_; rintro e w1 ⟨rfl, hw1⟩; subst hw1)
  go_ret
  exact ⟨rfl, rfl⟩

set_option maxRecDepth 100000 in
set_option maxHeartbeats 400000 in
theorem cdone (b : Nat) (i : Int) (dn : Bool) (w : World) (hc : w.cell? ⟨b, 3, none⟩ = some (.int .i64 i)) (hi : 0 < i) (hd : w.cell? ⟨b, 15, none⟩ = some (.bool dn)) : Calls Tryd.prog 40 #[.pointer (some ⟨b, 0, none⟩)] w fun e w' => e = .returned (.bool dn) ∧ w' = w := by
  have H : Hid (Calls _ _ _ w _) := cmade b i w hc hi
  clear hc hi
  go_enter Tryd.func40, Tryd.ntmps40
  go_wp2_with (go_at_call 71; refine H.out.mono ?_; rintro e w1 ⟨rfl, hw1⟩; subst hw1)
  go_ret
  exact ⟨rfl, rfl⟩

set_option maxRecDepth 100000 in
set_option maxHeartbeats 400000 in
theorem placed_no (b o : Nat) (w : World) (hc : w.cell? ⟨b, o + 1, none⟩ = some (.pointer none)) : Calls Tryd.prog 72 #[.pointer (some ⟨b, o, none⟩)] w fun e w' => e = .returned (.bool false) ∧ w' = w := by
  go_enter Tryd.func72, Tryd.ntmps72
  go_wp2
  go_ret
  exact ⟨rfl, rfl⟩
set_option maxRecDepth 100000 in
set_option maxHeartbeats 400000 in
theorem placed_yes (b o p : Nat) (w : World) (hc : w.cell? ⟨b, o + 1, none⟩ = some (.pointer (some ⟨p, 0, none⟩))) : Calls Tryd.prog 72 #[.pointer (some ⟨b, o, none⟩)] w fun e w' => e = .returned (.bool true) ∧ w' = w := by
  go_enter Tryd.func72, Tryd.ntmps72
  go_wp2
  go_ret
  exact ⟨rfl, rfl⟩
set_option maxRecDepth 100000 in
set_option maxHeartbeats 400000 in
theorem known_no (b o : Nat) (w : World) (hc : w.cell? ⟨b, o, none⟩ = some (.pointer none)) : Calls Tryd.prog 77 #[.pointer (some ⟨b, o, none⟩)] w fun e w' => e = .returned (.bool false) ∧ w' = w := by
  go_enter Tryd.func77, Tryd.ntmps77
  go_wp2
  go_ret
  exact ⟨rfl, rfl⟩

set_option maxRecDepth 100000 in
set_option maxHeartbeats 400000 in
theorem slot_done (b : Nat) (i : Int) (w : World) (hc : w.cell? ⟨b, 3, none⟩ = some (.int .i64 i)) (hi : 0 < i) (hd : w.cell? ⟨b, 15, none⟩ = some (.bool true)) : Calls Tryd.prog 79 #[.pointer (some ⟨b, 0, none⟩)] w fun e w' => e = .returned (.bool false) ∧ w' = w := by
  have H : Hid (Calls Tryd.prog 75 #[.pointer (some ⟨b, 0, none⟩)] w fun e w' => e = .returned (.bool false) ∧ w' = w) := copen b i true w hc hi hd
  clear hc hi hd
  go_enter Tryd.func79, Tryd.ntmps79
  go_wp2_with (go_at_call 75; refine H.out.mono ?_; rintro e w1 ⟨rfl, hw1⟩; subst hw1)
  go_ret
  exact ⟨rfl, rfl⟩

set_option maxRecDepth 100000 in
set_option maxHeartbeats 400000 in
theorem slot_yes (b : Nat) (i k : Int) (w : World) (hc : w.cell? ⟨b, 3, none⟩ = some (.int .i64 i)) (hi : 0 < i) (hd : w.cell? ⟨b, 15, none⟩ = some (.bool false)) (hf : w.cell? ⟨b, 18, none⟩ = some (.pointer none)) (hk : w.cell? ⟨b, 4, none⟩ = some (.int .i64 k)) (hk1 : k ≠ 1) : Calls Tryd.prog 79 #[.pointer (some ⟨b, 0, none⟩)] w fun e w' => e = .returned (.bool true) ∧ w' = w := by
  have H : Hid (Calls Tryd.prog 75 #[.pointer (some ⟨b, 0, none⟩)] w fun e w' => e = .returned (.bool true) ∧ w' = w) := copen b i false w hc hi hd
  have H2 : Hid (Calls _ _ _ w _) := known_no b 18 w hf
  have hk2 : (k != 1) = true := by simpa using hk1
  clear hc hi hd hf
  go_enter Tryd.func79, Tryd.ntmps79
  go_wp2_with (first
    | (go_at_call 75; refine H.out.mono ?_; rintro e w1 ⟨rfl, hw1⟩; subst hw1)
    | (go_at_call 77; refine H2.out.mono ?_; rintro e w1 ⟨rfl, hw1⟩; subst hw1))
  go_ret
  exact ⟨rfl, rfl⟩

set_option maxRecDepth 100000 in
set_option maxHeartbeats 1600000 in
theorem tell_ok {w : World} {c : Nat} {self aid now : Int} {cm : Cs0} {nv : Value} {dn : Bool} {wh st ft : Value} (h : Lv w c (callA self aid now cm nv dn wh st ft)) (says : Int) (bp : Option Addr) (bn bc : Nat) :
    Calls Tryd.prog 81 #[.pointer (some ⟨c, 0, none⟩), .int .i64 says, .slice bp bn bc] w fun e w' => ∃ g, e = .returned (.slice (some ⟨g, 0, none⟩) 1 1) ∧ w.heap.size ≤ g ∧ Kp (fun b => b = c) w w' ∧ Lv w' c (callA self aid now cm nv true (.slice none 0 0) (.pointer none) (.pointer none)) ∧ Lv w' g [.int .i64 aid, .int .i64 says, .slice bp bn bc] := by
  have HL : Hid (Lv w c (callA self aid now cm nv dn wh st ft)) := h
  have c1 := h.cell (j := 1) rfl
  have c15 := h.cell (j := 15) rfl
  have c16 := h.cell (j := 16) rfl
  have c17 := h.cell (j := 17) rfl
  have c18 := h.cell (j := 18) rfl
  have f15 := h.fz (j := 15) (show 15 < 19 by omega)
  have f16 := h.fz (j := 16) (show 16 < 19 by omega)
  have f17 := h.fz (j := 17) (show 17 < 19 by omega)
  have f18 := h.fz (j := 18) (show 18 < 19 by omega)
  clear h
  go_enter Tryd.func81, Tryd.ntmps81
  go_wp2
  go_ret
  have l1 : Lv _ c (callA self aid now cm nv true wh st ft) := HL.out.set1 15 (.bool true) (show 15 < 19 by omega)
  have l2 : Lv _ c (callA self aid now cm nv true (.slice none 0 0) st ft) := l1.set1 16 (.slice none 0 0) (show 16 < 19 by omega)
  have l3 : Lv _ c (callA self aid now cm nv true (.slice none 0 0) (.pointer none) ft) := l2.set1 17 (.pointer none) (show 17 < 19 by omega)
  have l4 : Lv _ c (callA self aid now cm nv true (.slice none 0 0) (.pointer none) (.pointer none)) := l3.set1 18 (.pointer none) (show 18 < 19 by omega)
  have k4 : Kp (fun b => b = c) w ((((w.setCell ⟨c, 15, none⟩ (.bool true)).setCell ⟨c, 16, none⟩ (.slice none 0 0)).setCell ⟨c, 17, none⟩ (.pointer none)).setCell ⟨c, 18, none⟩ (.pointer none)) := ((((Kp.refl (fun b => b = c) w).setCell (fun _ => rfl) _).setCell (fun _ => rfl) _).setCell (fun _ => rfl) _).setCell (fun _ => rfl) _
  obtain ⟨u, hu⟩ : ∃ x, x = ((((w.setCell ⟨c, 15, none⟩ (.bool true)).setCell ⟨c, 16, none⟩ (.slice none 0 0)).setCell ⟨c, 17, none⟩ (.pointer none)).setCell ⟨c, 18, none⟩ (.pointer none)) := ⟨_, rfl⟩
  have hs : u.heap.size = w.heap.size := by rw [hu]; simp
  rw [← hu] at k4 l4 ⊢
  refine ⟨w.heap.size, rfl, Nat.le_refl _, k4.alloc _, l4.keep ((Kp.refl (fun _ => False) u).alloc _) id, ?_⟩
  rw [← hs]
  exact Lv.new u _ _

set_option maxRecDepth 100000 in
set_option maxHeartbeats 1600000 in
theorem says_done (c : Nat) (k : Int) (w : World) (hk : w.cell? ⟨c, 4, none⟩ = some (.int .i64 k)) (h2 : k ≠ 2) : Calls Tryd.prog 82 #[.pointer (some ⟨c, 0, none⟩), .int .i64 1] w fun e w' => e = .returned (.int .i64 1) ∧ Kp (fun _ => False) w w' := by
  have h2' : (k == 2) = false := by simpa using h2
  go_enter Tryd.func82, Tryd.ntmps82
  go_wp2
  go_quiet (fail)
  go_wp2
  go_ret
  exact ⟨rfl, (Kp.refl _ _).drewN _⟩

abbrev outDone : Value := .agg #[.int .i64 1, .int .i64 0, .int .i64 0, .int .u32 0, .int .i64 0, .int .i64 0, .slice none 0 0, .int .i64 0]
set_option maxRecDepth 100000 in
set_option maxHeartbeats 1600000 in
theorem applied_del {w : World} {c : Nat} {self aid now : Int} {cm : Cs0} {nv : Value} {wh st : Value} (h : Lv w c (callA self aid now cm nv false wh st (.pointer none))) (hi : 0 < cm.id) (hk : cm.kind = 3) :
    Calls Tryd.prog 37 #[.pointer (some ⟨c, 0, none⟩), outDone, .int .i64 1] w fun e w' => ∃ g, e = .returned (.slice (some ⟨g, 0, none⟩) 1 1) ∧ w.heap.size ≤ g ∧ Kp (fun b => b = c) w w' ∧ Lv w' c (callA self aid now cm nv true (.slice none 0 0) (.pointer none) (.pointer none)) ∧ Lv w' g [.int .i64 aid, .int .i64 1, .slice none 0 0] := by
  have HS : Hid (∀ u, Kp (fun _ => False) w u → Calls _ _ _ u _) := fun u k => slot_yes c cm.id cm.kind u ((h.keep k id).cell (j := 3) rfl) hi ((h.keep k id).cell (j := 15) rfl) ((h.keep k id).cell (j := 18) rfl) ((h.keep k id).cell (j := 4) rfl) (by omega)
  have HSa : Hid (∀ u, Kp (fun _ => False) w u → Calls _ _ _ u _) := fun u k => says_done c cm.kind u ((h.keep k id).cell (j := 4) rfl) (by omega)
  have HT : Hid (∀ u, Kp (fun _ => False) w u → Calls _ _ _ u _) := fun u k => tell_ok (h.keep k id) 1 none 0 0
  have c4 : (w.alloc (.cells #[.int .i64 1, .int .i64 0, .int .i64 0, .int .u32 0, .int .i64 0, .int .i64 0, .slice none 0 0, .int .i64 0] 87)).cell? ⟨c, 4, none⟩ = some (.int .i64 3) := by
    have := (h.keep ((Kp.refl (fun _ => False) w).alloc (.cells #[.int .i64 1, .int .i64 0, .int .i64 0, .int .u32 0, .int .i64 0, .int .i64 0, .slice none 0 0, .int .i64 0] 87)) id).cell (j := 4) rfl
    rw [hk] at this
    exact this
  have k0 : Kp (fun _ => False) w (w.alloc (.cells #[.int .i64 1, .int .i64 0, .int .i64 0, .int .u32 0, .int .i64 0, .int .i64 0, .slice none 0 0, .int .i64 0] 87)) := (Kp.refl _ _).alloc _
  have lo : Lv (w.alloc (.cells #[.int .i64 1, .int .i64 0, .int .i64 0, .int .u32 0, .int .i64 0, .int .i64 0, .slice none 0 0, .int .i64 0] 87)) w.heap.size [.int .i64 1, .int .i64 0, .int .i64 0, .int .u32 0, .int .i64 0, .int .i64 0, .slice none 0 0, .int .i64 0] := Lv.new w _ _
  have o0 := lo.cell (j := 0) rfl
  have HLo : Hid (Lv (w.alloc (.cells #[.int .i64 1, .int .i64 0, .int .i64 0, .int .u32 0, .int .i64 0, .int .i64 0, .slice none 0 0, .int .i64 0] 87)) w.heap.size [.int .i64 1, .int .i64 0, .int .i64 0, .int .u32 0, .int .i64 0, .int .i64 0, .slice none 0 0, .int .i64 0]) := lo
  obtain ⟨W0, hW0⟩ : ∃ x, x = w.alloc (.cells #[.int .i64 1, .int .i64 0, .int .i64 0, .int .u32 0, .int .i64 0, .int .i64 0, .slice none 0 0, .int .i64 0] 87) := ⟨_, rfl⟩
  have e0 : w.alloc (.cells #[.int .i64 1, .int .i64 0, .int .i64 0, .int .u32 0, .int .i64 0, .int .i64 0, .slice none 0 0, .int .i64 0] 87) = W0 := hW0.symm
  rw [e0] at c4 k0 o0 HLo
  clear h lo hk hW0
  go_enter Tryd.func37, Tryd.ntmps37
  go_wp2_with fail
  try rw [e0]
  clear e0
  refine (HS.out _ k0).mono ?_
  rintro e w1 ⟨rfl, hw1⟩
  obtain rfl := hw1.symm
  clear hw1
  go_wp2
  go_quiet (fail)
  go_wp2_with (first
    | (go_at_call 82; refine (HSa.out _ (by exact k0.drewN _)).mono ?_; rintro e w2 ⟨rfl, k2⟩; have kd2 : Kp (fun _ => False) w w2 := (k0.drewN _).trans k2 (fun _ _ e => e))
    | (go_at_call 81; refine (HT.out _ kd2).mono ?_; rintro e w3 ⟨g, rfl, hg, k3, l3, lg⟩))
  go_ret
  refine ⟨g, rfl, ?_, (kd2.mono (fun _ _ e => e.elim)).trans k3 (fun _ _ e => e), l3, lg⟩
  have := kd2.size
  omega

set_option maxRecDepth 100000 in
set_option maxHeartbeats 1600000 in
theorem told_same (aid says : Int) (p1 p2 : Option Addr) (n1 n2 c1 c2 : Nat) (xs : List Nat) (w : World) (h1 : Rb w p1 n1 xs) (h2 : Rb w p2 n2 xs) :
    Calls Tryd.prog 85 #[.agg #[.int .i64 aid, .int .i64 says, .slice p1 n1 c1], .agg #[.int .i64 aid, .int .i64 says, .slice p2 n2 c2]] w fun e w' => e = .returned (.bool true) ∧ Kp (fun _ => False) w w' := by
  have HB : Hid (∀ u, Kp (fun _ => False) w u → Calls _ _ _ u _) := fun u k => bytes_same p1 p2 n1 n2 c1 c2 xs u (h1.keep0 k) (h2.keep0 k)
  clear h1 h2
  have k0 : Kp (fun _ => False) w ((w.alloc (.cells #[.int .i64 aid, .int .i64 says, .slice p1 n1 c1] 96)).alloc (.cells #[.int .i64 aid, .int .i64 says, .slice p2 n2 c2] 96)) := ((Kp.refl _ _).alloc _).alloc _
  go_enter Tryd.func85, Tryd.ntmps85
  go_wp2_with (go_at_call 18; refine (HB.out _ k0).mono ?_; rintro e w1 ⟨rfl, hw1⟩; subst hw1)
  go_ret
  exact ⟨rfl, k0⟩

abbrev toldA (aid says : Int) (p : Option Addr) (n c : Nat) : List Value := [.int .i64 aid, .int .i64 says, .slice p n c]
theorem szTold : (Tryd.prog.info? 96).map (·.size) = some 3 := by kernel_rfl
theorem dsTold : ∃ d, Tryd.prog.underlying 96 = some d ∧ d.isRow = true := ⟨_, Tryd.underlying96, rfl⟩
theorem told_one (aid says : Int) (p : Option Addr) (n c : Nat) : (toldA aid says p n c).toArray.all (·.oneCell') = true := all_oneCell_toArray (fun x hx => by
  simp only [List.mem_cons, List.not_mem_nil, or_false] at hx
  rcases hx with rfl | rfl | rfl <;> rfl)
set_option maxRecDepth 100000 in
set_option maxHeartbeats 1600000 in
theorem eqf_told1 (aid says : Int) (p1 p2 : Option Addr) (n1 n2 d1 d2 : Nat) (xs : List Nat) (g1 g2 c1 c2 : Nat) (w : World) (h1 : Lv w g1 (toldA aid says p1 n1 d1)) (h2 : Lv w g2 (toldA aid says p2 n2 d2)) (r1 : Rb w p1 n1 xs) (r2 : Rb w p2 n2 xs) :
    Calls Tryd.prog 84 #[.slice (some ⟨g1, 0, none⟩) 1 c1, .slice (some ⟨g2, 0, none⟩) 1 c2, .func (.func 85) #[] #[]] w fun e w' => e = .returned (.bool true) ∧ Kp (fun _ => False) w w' := by
  have HSv : Hid (∀ u, Kp (fun _ => False) w u → Calls _ _ _ u _) := fun u k => told_same aid says p1 p2 n1 n2 d1 d2 xs u (r1.keep0 k) (r2.keep0 k)
  have HR1 : Hid (Lv w g1 (toldA aid says p1 n1 d1)) := h1
  have HR2 : Hid (∀ u, Kp (fun _ => False) w u → Lv u g2 (toldA aid says p2 n2 d2)) := fun u k => h2.keep k id
  have HO1 : Hid ((toldA aid says p1 n1 d1).toArray.all (·.oneCell') = true) := told_one _ _ _ _ _
  have HO2 : Hid ((toldA aid says p2 n2 d2).toArray.all (·.oneCell') = true) := told_one _ _ _ _ _
  clear h1 h2 r1 r2
  go_enter Tryd.func84, Tryd.ntmps84
  go_wp2
  go_loopg [17] 1 (fun gk i wr => ∃ k : Nat, k ≤ 1 ∧ gk = 1 - k ∧ i = .int .i64 k ∧ (k = 0 → wr = w) ∧ Kp (fun _ => False) w wr)
  case atStart => exact ⟨0, by omega, rfl, rfl, fun _ => rfl, Kp.refl _ _⟩
  case round =>
    obtain ⟨k, hk, rfl, rfl, h0, hK⟩ := hrel
    by_cases hk0 : k = 0
    · subst hk0
      obtain rfl := h0 rfl
      clear h0 hK
      go_wp2_with (first
        | (refine wpList_load_all rfl 96 _ rfl 3 g1 (toldA aid says p1 n1 d1) rfl HR1.out dsTold szTold rfl ?_)
        | (refine wpList_store_all rfl 96 _ _ rfl 3 wr.heap.size [.int .i64 0, .int .i64 0, .slice none 0 0] (toldA aid says p1 n1 d1) rfl rfl (by exact Lv.new wr _ _) szTold rfl rfl HO1.out ?_; intro u2 hl2 k2; have ku2 : Kp (fun _ => False) wr u2 := ((Kp.refl (fun _ => False) wr).alloc _).trans k2 (fun b hb e => by omega); have HR2' : Hid (Lv u2 g2 (toldA aid says p2 n2 d2)) := HR2.out u2 ku2; have HL2 : Hid (Lv u2 wr.heap.size (toldA aid says p1 n1 d1)) := hl2; clear hl2 k2)
        | (refine wpList_load_all rfl 96 _ rfl 3 g2 (toldA aid says p2 n2 d2) rfl HR2'.out dsTold szTold rfl ?_)
        | (refine wpList_store_all rfl 96 _ _ rfl 3 u2.heap.size [.int .i64 0, .int .i64 0, .slice none 0 0] (toldA aid says p2 n2 d2) rfl rfl (by exact Lv.new u2 _ _) szTold rfl rfl HO2.out ?_; intro u3 hl3 k3; have ku3 : Kp (fun _ => False) u2 u3 := ((Kp.refl (fun _ => False) u2).alloc _).trans k3 (fun b hb e => by omega); have HL3 : Hid (Lv u3 u2.heap.size (toldA aid says p2 n2 d2)) := hl3; have HL2' : Hid (Lv u3 wr.heap.size (toldA aid says p1 n1 d1)) := HL2.out.keep ku3 id; have kw3 := ku2.trans ku3 (fun _ _ e => e); clear hl3 k3)
        | (refine wpList_load_all rfl 96 _ rfl 3 wr.heap.size (toldA aid says p1 n1 d1) rfl HL2'.out dsTold szTold rfl ?_)
        | (refine wpList_load_all rfl 96 _ rfl 3 u2.heap.size (toldA aid says p2 n2 d2) rfl HL3.out dsTold szTold rfl ?_)
        | (go_at_call 85; refine (HSv.out _ kw3).mono ?_; rintro e u4 ⟨rfl, k4⟩))
      go_roundg 0
      case rel => exact ⟨1, by omega, rfl, by go_num, fun h => absurd h (by decide), kw3.trans k4 (fun _ _ e => e)⟩
      case measure => omega
    · obtain rfl : k = 1 := by omega
      go_wp2
      go_ret
      exact ⟨rfl, hK⟩

set_option maxRecDepth 100000 in
set_option maxHeartbeats 800000 in
theorem same_told1 (aid says : Int) (p1 p2 : Option Addr) (n1 n2 d1 d2 : Nat) (xs : List Nat) (g1 g2 c1 c2 : Nat) (w : World) (h1 : Lv w g1 (toldA aid says p1 n1 d1)) (h2 : Lv w g2 (toldA aid says p2 n2 d2)) (r1 : Rb w p1 n1 xs) (r2 : Rb w p2 n2 xs) :
    Calls Tryd.prog 43 #[.slice (some ⟨g1, 0, none⟩) 1 c1, .slice (some ⟨g2, 0, none⟩) 1 c2] w fun e w' => e = .returned (.bool true) ∧ Kp (fun _ => False) w w' := by
  have H : Hid (Calls _ _ _ w _) := eqf_told1 aid says p1 p2 n1 n2 d1 d2 xs g1 g2 c1 c2 w h1 h2 r1 r2
  clear h1 h2 r1 r2
  go_enter Tryd.func43, Tryd.ntmps43
  go_wp2_with (go_at_call 84; refine H.out.mono ?_; rintro e w1 ⟨rfl, k1⟩)
  go_ret
  exact ⟨rfl, k1⟩

set_option maxRecDepth 100000 in
set_option maxHeartbeats 800000 in
theorem may_del (w : World) : Calls Tryd.prog 68 #[.agg #[.int .i64 7, .int .i64 3, .string keyA, .slice none 0 0]] w fun e w' => e = .returned (.bool true) ∧ Kp (fun _ => False) w w' := by
  have H1 : Hid (∀ u, Calls _ _ _ u _) := fun u => cmdOf_del u
  have H2 : Hid (∀ u, Calls _ _ _ u _) := fun u => key_a u
  go_enter Tryd.func68, Tryd.ntmps68
  go_wp2_with (first
    | (go_at_call 69; refine (H1.out _).mono ?_; rintro e w1 ⟨rfl, hw1⟩; subst hw1)
    | (go_at_call 100; refine (H2.out _).mono ?_; rintro e w1 ⟨rfl, hw1⟩; subst hw1))
  go_ret
  exact ⟨rfl, (Kp.refl _ _).alloc _⟩

abbrev cmDel : Cs0 := ⟨5, 3, keyA, 0, 0, 0, 0, 0, 0, 0, 0⟩
abbrev askDel : Array Value := #[.int .i64 7, .int .i64 3, .string keyA, .slice none 0 0]
set_option maxRecDepth 100000 in
set_option maxHeartbeats 1600000 in
theorem new_del (w : World) : Calls Tryd.prog 34 #[.int .i64 1, .agg askDel, .int .i64 5, .int .i64 0] w fun e w' => ∃ c, e = .returned (.tuple #[.pointer (some ⟨c, 0, none⟩), .int .i64 0]) ∧ Kp (fun _ => False) w w' ∧ w.heap.size ≤ c ∧ Lv w' c (callA 1 7 0 cmDel (.slice none 0 0) false (.slice none 0 0) (.pointer none) (.pointer none)) := by
  have H1 : Hid (∀ u, Calls _ _ _ u _) := fun u => isNode_ok 1 u
  have H2 : Hid (∀ u, Calls _ _ _ u _) := fun u => may_del u
  have H3 : Hid (∀ u, Calls _ _ _ u _) := fun u => cmdOf_del u
  have k0 : Kp (fun _ => False) w (w.alloc (.cells askDel 81)) := (Kp.refl _ _).alloc _
  have HL : Hid (Lv (w.alloc (.cells askDel 81)) w.heap.size askDel.toList) := Lv.new w _ _
  go_enter Tryd.func34, Tryd.ntmps34
  go_wp2_with (first
    | (go_at_call 48; refine (H1.out _).mono ?_; rintro e w1 ⟨rfl, hw1⟩; subst hw1)
    | (go_at_call 68; refine (H2.out _).mono ?_; rintro e w1 ⟨rfl, k1⟩))
  have kd : Kp (fun _ => False) (w.alloc (.cells askDel 81)) w1.drew := k1.drew
  have l1 : Lv w1.drew w.heap.size askDel.toList := HL.out.keep kd id
  have ka : Kp (fun _ => False) w1.drew (w1.drew.alloc (.cells #[.int .i64 1, .int .i64 7, .int .i64 0, .int .i64 5, .int .i64 3, .string keyA, .int .i64 0, .int .i64 0, .int .i64 0, .int .i64 0, .int .i64 0, .int .u32 0, .int .i64 0, .int .i64 0, .slice none 0 0, .bool false, .slice none 0 0, .pointer none, .pointer none] 106)) := (Kp.refl _ _).alloc _
  have l2 := l1.keep ka id
  refine cn3_region ⟨by kernel_rfl, by kernel_rfl, by kernel_rfl, by kernel_rfl, by kernel_rfl, by kernel_rfl, by kernel_rfl, by kernel_rfl, by kernel_rfl, by kernel_rfl, by kernel_rfl, by kernel_rfl, by kernel_rfl, by kernel_rfl, by kernel_rfl, by kernel_rfl, by kernel_rfl, by kernel_rfl, by kernel_rfl, by kernel_rfl, by kernel_rfl, by kernel_rfl⟩ w.heap.size 1 7 3 3 5 0 keyA (fun d _ _ _ _ h => by cases d <;> exact h) (by rfl) (by rfl) (by rfl) (by rfl) (by rfl) ⟨l1.cell (j := 0) rfl, l1.cell (j := 1) rfl, l1.cell (j := 2) rfl⟩ ⟨l2.cell (j := 0) rfl, l2.cell (j := 1) rfl, l2.cell (j := 2) rfl⟩ (H3.out _) ?_
  simp only [Act.put, List.setIfInBounds_toArray, List.set_cons_succ, List.set_cons_zero]
  have d1 := l2.cell (j := 1) rfl
  have hl : Lv (w1.drew.alloc (.cells #[.int .i64 1, .int .i64 7, .int .i64 0, .int .i64 5, .int .i64 3, .string keyA, .int .i64 0, .int .i64 0, .int .i64 0, .int .i64 0, .int .i64 0, .int .u32 0, .int .i64 0, .int .i64 0, .slice none 0 0, .bool false, .slice none 0 0, .pointer none, .pointer none] 106)) w1.drew.heap.size (callA 1 7 0 cmDel (.slice none 0 0) false (.slice none 0 0) (.pointer none) (.pointer none)) := Lv.new w1.drew _ _
  have hk := (k0.trans kd (fun _ _ e => e)).trans ka (fun _ _ e => e)
  have hsz := (k0.trans kd (fun _ _ e => e)).size
  obtain ⟨z, hz⟩ : ∃ x, x = (w1.drew.alloc (.cells #[.int .i64 1, .int .i64 7, .int .i64 0, .int .i64 5, .int .i64 3, .string keyA, .int .i64 0, .int .i64 0, .int .i64 0, .int .i64 0, .int .i64 0, .int .u32 0, .int .i64 0, .int .i64 0, .slice none 0 0, .bool false, .slice none 0 0, .pointer none, .pointer none] 106)) := ⟨_, rfl⟩
  rw [← hz] at hl hk d1 ⊢
  have HH : Hid (Lv z w1.drew.heap.size (callA 1 7 0 cmDel (.slice none 0 0) false (.slice none 0 0) (.pointer none) (.pointer none)) ∧ Kp (fun _ => False) w z ∧ w.heap.size ≤ w1.drew.heap.size) := ⟨hl, hk, hsz⟩
  obtain ⟨g, hg⟩ : ∃ g, g = w1.drew.heap.size := ⟨_, rfl⟩
  rw [← hg] at HH ⊢
  clear hg hl hk hsz hz l2 ka l1 kd k1
  go_wp2
  go_ret2
  exact ⟨g, rfl, HH.out.2.1, HH.out.2.2, HH.out.1⟩

set_option maxRecDepth 100000 in
set_option maxHeartbeats 1600000 in
theorem cmd_yes {w : World} {c : Nat} {self aid now : Int} {cm : Cs0} {dn : Bool} {wh st ft : Value} (h : Lv w c (callA self aid now cm (.slice none 0 0) dn wh st ft)) (hs : ∀ u, Kp (fun _ => False) w u → Calls Tryd.prog 79 #[.pointer (some ⟨c, 0, none⟩)] u fun e w' => e = .returned (.bool true) ∧ w' = u) :
    Calls Tryd.prog 39 #[.pointer (some ⟨c, 0, none⟩)] w fun e w' => ∃ q cq, e = .returned (.tuple #[.agg (cmdA cm (.slice q 0 cq)), .bool true]) ∧ Kp (fun _ => False) w w' := by
  have k0 : Kp (fun _ => False) w (w.alloc (.cells zeroC 42)) := (Kp.refl _ _).alloc _
  have H : Hid (Calls Tryd.prog 79 #[.pointer (some ⟨c, 0, none⟩)] (w.alloc (.cells zeroC 42)) fun e w' => e = .returned (.bool true) ∧ w' = (w.alloc (.cells zeroC 42))) := hs _ k0
  have HL : Hid (Lv (w.alloc (.cells zeroC 42)) w.heap.size zeroC.toList) := Lv.new w _ _
  have lc := h.keep k0 id
  have HR : Hid ((w.alloc (.cells zeroC 42)).rangeAt c 3 (cmdA cm (.slice none 0 0)).toList) := fun j u hu => by
    have hj : j < 12 := by have := (List.getElem?_eq_some_iff.1 hu).1; simpa using this
    have := lc.r (3 + j) u (by rw [← hu]; rcases j with _ | _ | _ | _ | _ | _ | _ | _ | _ | _ | _ | _ | j <;> first | rfl | omega)
    rwa [Nat.zero_add] at this
  have HC : Hid (Calls _ _ _ (w.alloc (.cells zeroC 42)) _) := clone_cmd cm (fun _ => True) none 0 [] (w.alloc (.cells zeroC 42)) (fun j u hu => by simp at hu) (show _ ≤ _ by simp)
  obtain ⟨dc, hdc1, hdc2⟩ := dsCmd
  clear h hs lc
  go_enter Tryd.func39, Tryd.ntmps39
  go_wp2_with (first
    | (go_at_call 79; refine H.out.mono ?_; rintro e w1 ⟨rfl, hw1⟩; subst hw1)
    | (refine wpList_load_mid rfl 42 _ rfl c 3 rfl (cmdA cm (.slice none 0 0)).toList dc HR.out hdc1 hdc2 (by rw [szCmd]; rfl) ?_)
    | (go_at_call 83; refine HC.out.mono ?_; rintro e w2 ⟨q, cq, rfl, k2, hfl⟩; have HL2 : Hid (Lv w2 w.heap.size zeroC.toList) := HL.out.keep k2 id; have HO : Hid ((cmdA cm (.slice q 0 cq)).toList.toArray.all (·.oneCell') = true) := cmd_one cm rfl)
    | (refine wpList_store_all rfl 42 _ _ rfl 12 w.heap.size zeroC.toList (cmdA cm (.slice q 0 cq)).toList rfl rfl HL2.out szCmd rfl rfl HO.out ?_; intro w3 hl3 k3))
  refine bodyPost_ret (res_cell_tmp Tryd.results39 _ _ w.heap.size _ rfl (hl3.load ⟨dc, hdc1, hdc2⟩ szCmd rfl)) rfl ?_
  first | exact ⟨⟨q, cq, rfl⟩, (k0.trans k2 (fun _ _ e => e)).trans k3 (fun b hb e => by omega)⟩ | exact ⟨q, cq, rfl, (k0.trans k2 (fun _ _ e => e)).trans k3 (fun b hb e => by omega)⟩
end Go.Proofs.YtmncocmeafcpfaaDoor
