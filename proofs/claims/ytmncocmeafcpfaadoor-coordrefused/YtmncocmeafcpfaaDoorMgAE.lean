/- Texts of this proof, joined: Zc, MfGf, MfXs, MfEl. -/
import Derived.Test.YtmncocmeafcpfaaDoorMgAD
/- Calls of clients in memory; a delete, from its beginning to its end. -/
namespace Go.Proofs.YtmncocmeafcpfaaDoor
set_option linter.unusedVariables false
set_option linter.unusedSimpArgs false
open Go.RowKit Go.Deep

/-- a call, cell by cell -/
abbrev callA (self aid now : Int) (c : Cs0) (nv : Value) (dn : Bool) (wh st ft : Value) : List Value :=
  [.int .i64 self, .int .i64 aid, .int .i64 now, .int .i64 c.id, .int .i64 c.kind, .string c.key, .int .i64 c.blob, .int .i64 c.other, .int .i64 c.index, .int .i64 c.node, .int .i64 c.size, .int .u32 c.sum, .int .i64 c.k, .int .i64 c.m, nv, .bool dn, wh, st, ft]
theorem szCall : (Tryd.prog.info? 106).map (·.size) = some 19 := by kernel_rfl

set_option maxRecDepth 100000 in
set_option maxHeartbeats 400000 in
theorem cmade (b : Nat) (i : Int) (w : World) (hc : w.cell? ⟨b, 3, none⟩ = some (.int .i64 i)) (hi : 0 < i) : Calls Tryd.prog 71 #[.pointer (some ⟨b, 0, none⟩)] w fun e w' => e = .returned (.bool true) ∧ w' = w := by
  go_enter Tryd.func71, Tryd.ntmps71
  go_wp2
  go_ret
  exact ⟨by simp [hi], rfl⟩

set_option maxRecDepth 100000 in
set_option maxHeartbeats 400000 in
theorem copen (b : Nat) (i : Int) (dn : Bool) (w : World) (hc : w.cell? ⟨b, 3, none⟩ = some (.int .i64 i)) (hi : 0 < i) (hd : w.cell? ⟨b, 15, none⟩ = some (.bool dn)) : Calls Tryd.prog 75 #[.pointer (some ⟨b, 0, none⟩)] w fun e w' => e = .returned (.bool (!dn)) ∧ w' = w := by
  have H : Hid (Calls _ _ _ w _) := cmade b i w hc hi
  clear hc hi
  go_enter Tryd.func75, Tryd.ntmps75
  go_wp2_with (go_at_call 71; refine H.out.mono ?_; rintro e w1 ⟨rfl, hw1⟩; subst hw1)
  go_ret
  exact ⟨rfl, rfl⟩

set_option maxRecDepth 100000 in
set_option maxHeartbeats 400000 in
theorem cdone (b : Nat) (i : Int) (dn : Bool) (w : World) (hc : w.cell? ⟨b, 3, none⟩ = some (.int .i64 i)) (hi : 0 < i) (hd : w.cell? ⟨b, 15, none⟩ = some (.bool dn)) : Calls Tryd.prog 40 #[.pointer (some ⟨b, 0, none⟩)] w fun e w' => e = .returned (.bool dn) ∧ w' = w := by
  have H : Hid (Calls _ _ _ w _) := cmade b i w hc hi
  clear hc hi
  go_enter Tryd.func40, Tryd.ntmps40
  go_wp2_with (go_at_call 71; refine H.out.mono ?_; rintro e w1 ⟨rfl, hw1⟩; subst hw1)
  go_ret
  exact ⟨rfl, rfl⟩

set_option maxRecDepth 100000 in
set_option maxHeartbeats 400000 in
theorem placed_no (b o : Nat) (w : World) (hc : w.cell? ⟨b, o + 1, none⟩ = some (.pointer none)) : Calls Tryd.prog 72 #[.pointer (some ⟨b, o, none⟩)] w fun e w' => e = .returned (.bool false) ∧ w' = w := by
  go_enter Tryd.func72, Tryd.ntmps72
  go_wp2
  go_ret
  exact ⟨rfl, rfl⟩
set_option maxRecDepth 100000 in
set_option maxHeartbeats 400000 in
theorem placed_yes (b o p : Nat) (w : World) (hc : w.cell? ⟨b, o + 1, none⟩ = some (.pointer (some ⟨p, 0, none⟩))) : Calls Tryd.prog 72 #[.pointer (some ⟨b, o, none⟩)] w fun e w' => e = .returned (.bool true) ∧ w' = w := by
  go_enter Tryd.func72, Tryd.ntmps72
  go_wp2
  go_ret
  exact ⟨rfl, rfl⟩
set_option maxRecDepth 100000 in
set_option maxHeartbeats 400000 in
theorem known_no (b o : Nat) (w : World) (hc : w.cell? ⟨b, o, none⟩ = some (.pointer none)) : Calls Tryd.prog 77 #[.pointer (some ⟨b, o, none⟩)] w fun e w' => e = .returned (.bool false) ∧ w' = w := by
  go_enter Tryd.func77, Tryd.ntmps77
  go_wp2
  go_ret
  exact ⟨rfl, rfl⟩

set_option maxRecDepth 100000 in
set_option maxHeartbeats 400000 in
theorem slot_done (b : Nat) (i : Int) (w : World) (hc : w.cell? ⟨b, 3, none⟩ = some (.int .i64 i)) (hi : 0 < i) (hd : w.cell? ⟨b, 15, none⟩ = some (.bool true)) : Calls Tryd.prog 79 #[.pointer (some ⟨b, 0, none⟩)] w fun e w' => e = .returned (.bool false) ∧ w' = w := by
  have H : Hid (Calls Tryd.prog 75 #[.pointer (some ⟨b, 0, none⟩)] w fun e w' => e = .returned (.bool false) ∧ w' = w) := copen b i true w hc hi hd
  clear hc hi hd
  go_enter Tryd.func79, Tryd.ntmps79
  go_wp2_with (go_at_call 75; refine H.out.mono ?_; rintro e w1 ⟨rfl, hw1⟩; subst hw1)
  go_ret
  exact ⟨rfl, rfl⟩

set_option maxRecDepth 100000 in
set_option maxHeartbeats 400000 in
theorem slot_yes (b : Nat) (i k : Int) (w : World) (hc : w.cell? ⟨b, 3, none⟩ = some (.int .i64 i)) (hi : 0 < i) (hd : w.cell? ⟨b, 15, none⟩ = some (.bool false)) (hf : w.cell? ⟨b, 18, none⟩ = some (.pointer none)) (hk : w.cell? ⟨b, 4, none⟩ = some (.int .i64 k)) (hk1 : k ≠ 1) : Calls Tryd.prog 79 #[.pointer (some ⟨b, 0, none⟩)] w fun e w' => e = .returned (.bool true) ∧ w' = w := by
  have H : Hid (Calls Tryd.prog 75 #[.pointer (some ⟨b, 0, none⟩)] w fun e w' => e = .returned (.bool true) ∧ w' = w) := copen b i false w hc hi hd
  have H2 : Hid (Calls _ _ _ w _) := known_no b 18 w hf
  have hk2 : (k != 1) = true := by simpa using hk1
  clear hc hi hd hf
  go_enter Tryd.func79, Tryd.ntmps79
  go_wp2_with (first
    | (go_at_call 75; refine H.out.mono ?_; rintro e w1 ⟨rfl, hw1⟩; subst hw1)
    | (go_at_call 77; refine H2.out.mono ?_; rintro e w1 ⟨rfl, hw1⟩; subst hw1))
  go_ret
  exact ⟨rfl, rfl⟩

set_option maxRecDepth 100000 in
set_option maxHeartbeats 1600000 in
theorem tell_ok {w : World} {c : Nat} {self aid now : Int} {cm : Cs0} {nv : Value} {dn : Bool} {wh st ft : Value} (h : Lv w c (callA self aid now cm nv dn wh st ft)) (says : Int) (bp : Option Addr) (bn bc : Nat) :
    Calls Tryd.prog 81 #[.pointer (some ⟨c, 0, none⟩), .int .i64 says, .slice bp bn bc] w fun e w' => ∃ g, e = .returned (.slice (some ⟨g, 0, none⟩) 1 1) ∧ w.heap.size ≤ g ∧ Kp (fun b => b = c) w w' ∧ Lv w' c (callA self aid now cm nv true (.slice none 0 0) (.pointer none) (.pointer none)) ∧ Lv w' g [.int .i64 aid, .int .i64 says, .slice bp bn bc] := by
  have HL : Hid (Lv w c (callA self aid now cm nv dn wh st ft)) := h
  have c1 := h.cell (j := 1) rfl
  have c15 := h.cell (j := 15) rfl
  have c16 := h.cell (j := 16) rfl
  have c17 := h.cell (j := 17) rfl
  have c18 := h.cell (j := 18) rfl
  have f15 := h.fz (j := 15) (show 15 < 19 by omega)
  have f16 := h.fz (j := 16) (show 16 < 19 by omega)
  have f17 := h.fz (j := 17) (show 17 < 19 by omega)
  have f18 := h.fz (j := 18) (show 18 < 19 by omega)
  clear h
  go_enter Tryd.func81, Tryd.ntmps81
  go_wp2
  go_ret
  have l1 : Lv _ c (callA self aid now cm nv true wh st ft) := HL.out.set1 15 (.bool true) (show 15 < 19 by omega)
  have l2 : Lv _ c (callA self aid now cm nv true (.slice none 0 0) st ft) := l1.set1 16 (.slice none 0 0) (show 16 < 19 by omega)
  have l3 : Lv _ c (callA self aid now cm nv true (.slice none 0 0) (.pointer none) ft) := l2.set1 17 (.pointer none) (show 17 < 19 by omega)
  have l4 : Lv _ c (callA self aid now cm nv true (.slice none 0 0) (.pointer none) (.pointer none)) := l3.set1 18 (.pointer none) (show 18 < 19 by omega)
  have k4 : Kp (fun b => b = c) w ((((w.setCell ⟨c, 15, none⟩ (.bool true)).setCell ⟨c, 16, none⟩ (.slice none 0 0)).setCell ⟨c, 17, none⟩ (.pointer none)).setCell ⟨c, 18, none⟩ (.pointer none)) := ((((Kp.refl (fun b => b = c) w).setCell (fun _ => rfl) _).setCell (fun _ => rfl) _).setCell (fun _ => rfl) _).setCell (fun _ => rfl) _
  obtain ⟨u, hu⟩ : ∃ x, x = ((((w.setCell ⟨c, 15, none⟩ (.bool true)).setCell ⟨c, 16, none⟩ (.slice none 0 0)).setCell ⟨c, 17, none⟩ (.pointer none)).setCell ⟨c, 18, none⟩ (.pointer none)) := ⟨_, rfl⟩
  have hs : u.heap.size = w.heap.size := by rw [hu]; simp
  rw [← hu] at k4 l4 ⊢
  refine ⟨w.heap.size, rfl, Nat.le_refl _, k4.alloc _, l4.keep ((Kp.refl (fun _ => False) u).alloc _) id, ?_⟩
  rw [← hs]
  exact Lv.new u _ _

set_option maxRecDepth 100000 in
set_option maxHeartbeats 1600000 in
theorem says_done (c : Nat) (k : Int) (w : World) (hk : w.cell? ⟨c, 4, none⟩ = some (.int .i64 k)) (h2 : k ≠ 2) : Calls Tryd.prog 82 #[.pointer (some ⟨c, 0, none⟩), .int .i64 1] w fun e w' => e = .returned (.int .i64 1) ∧ Kp (fun _ => False) w w' := by
  have h2' : (k == 2) = false := by simpa using h2
  go_enter Tryd.func82, Tryd.ntmps82
  go_wp2
  go_quiet (fail)
  go_wp2
  go_ret
  exact ⟨rfl, (Kp.refl _ _).drewN _⟩

abbrev outDone : Value := .agg #[.int .i64 1, .int .i64 0, .int .i64 0, .int .u32 0, .int .i64 0, .int .i64 0, .slice none 0 0, .int .i64 0]
set_option maxRecDepth 100000 in
set_option maxHeartbeats 1600000 in
theorem applied_del {w : World} {c : Nat} {self aid now : Int} {cm : Cs0} {nv : Value} {wh st : Value} (h : Lv w c (callA self aid now cm nv false wh st (.pointer none))) (hi : 0 < cm.id) (hk : cm.kind = 3) :
    Calls Tryd.prog 37 #[.pointer (some ⟨c, 0, none⟩), outDone, .int .i64 1] w fun e w' => ∃ g, e = .returned (.slice (some ⟨g, 0, none⟩) 1 1) ∧ w.heap.size ≤ g ∧ Kp (fun b => b = c) w w' ∧ Lv w' c (callA self aid now cm nv true (.slice none 0 0) (.pointer none) (.pointer none)) ∧ Lv w' g [.int .i64 aid, .int .i64 1, .slice none 0 0] := by
  have HS : Hid (∀ u, Kp (fun _ => False) w u → Calls _ _ _ u _) := fun u k => slot_yes c cm.id cm.kind u ((h.keep k id).cell (j := 3) rfl) hi ((h.keep k id).cell (j := 15) rfl) ((h.keep k id).cell (j := 18) rfl) ((h.keep k id).cell (j := 4) rfl) (by omega)
  have HSa : Hid (∀ u, Kp (fun _ => False) w u → Calls _ _ _ u _) := fun u k => says_done c cm.kind u ((h.keep k id).cell (j := 4) rfl) (by omega)
  have HT : Hid (∀ u, Kp (fun _ => False) w u → Calls _ _ _ u _) := fun u k => tell_ok (h.keep k id) 1 none 0 0
  have c4 : (w.alloc (.cells #[.int .i64 1, .int .i64 0, .int .i64 0, .int .u32 0, .int .i64 0, .int .i64 0, .slice none 0 0, .int .i64 0] 87)).cell? ⟨c, 4, none⟩ = some (.int .i64 3) := by
    have := (h.keep ((Kp.refl (fun _ => False) w).alloc (.cells #[.int .i64 1, .int .i64 0, .int .i64 0, .int .u32 0, .int .i64 0, .int .i64 0, .slice none 0 0, .int .i64 0] 87)) id).cell (j := 4) rfl
    rw [hk] at this
    exact this
  have k0 : Kp (fun _ => False) w (w.alloc (.cells #[.int .i64 1, .int .i64 0, .int .i64 0, .int .u32 0, .int .i64 0, .int .i64 0, .slice none 0 0, .int .i64 0] 87)) := (Kp.refl _ _).alloc _
  have lo : Lv (w.alloc (.cells #[.int .i64 1, .int .i64 0, .int .i64 0, .int .u32 0, .int .i64 0, .int .i64 0, .slice none 0 0, .int .i64 0] 87)) w.heap.size [.int .i64 1, .int .i64 0, .int .i64 0, .int .u32 0, .int .i64 0, .int .i64 0, .slice none 0 0, .int .i64 0] := Lv.new w _ _
  have o0 := lo.cell (j := 0) rfl
  have HLo : Hid (Lv (w.alloc (.cells #[.int .i64 1, .int .i64 0, .int .i64 0, .int .u32 0, .int .i64 0, .int .i64 0, .slice none 0 0, .int .i64 0] 87)) w.heap.size [.int .i64 1, .int .i64 0, .int .i64 0, .int .u32 0, .int .i64 0, .int .i64 0, .slice none 0 0, .int .i64 0]) := lo
  obtain ⟨W0, hW0⟩ : ∃ x, x = w.alloc (.cells #[.int .i64 1, .int .i64 0, .int .i64 0, .int .u32 0, .int .i64 0, .int .i64 0, .slice none 0 0, .int .i64 0] 87) := ⟨_, rfl⟩
  have e0 : w.alloc (.cells #[.int .i64 1, .int .i64 0, .int .i64 0, .int .u32 0, .int .i64 0, .int .i64 0, .slice none 0 0, .int .i64 0] 87) = W0 := hW0.symm
  rw [e0] at c4 k0 o0 HLo
  clear h lo hk hW0
  go_enter Tryd.func37, Tryd.ntmps37
  go_wp2_with fail
  try rw [e0]
  clear e0
  refine (HS.out _ k0).mono ?_
  rintro e w1 ⟨rfl, hw1⟩
  obtain rfl := hw1.symm
  clear hw1
  go_wp2
  go_quiet (fail)
  go_wp2_with (first
    | (go_at_call 82; refine (HSa.out _ (by exact k0.drewN _)).mono ?_; rintro e w2 ⟨rfl, k2⟩; have kd2 : Kp (fun _ => False) w w2 := (k0.drewN _).trans k2 (fun _ _ e => e))
    | (go_at_call 81; refine (HT.out _ kd2).mono ?_; rintro e w3 ⟨g, rfl, hg, k3, l3, lg⟩))
  go_ret
  refine ⟨g, rfl, ?_, (kd2.mono (fun _ _ e => e.elim)).trans k3 (fun _ _ e => e), l3, lg⟩
  have := kd2.size
  omega

set_option maxRecDepth 100000 in
set_option maxHeartbeats 1600000 in
theorem told_same (aid says : Int) (p1 p2 : Option Addr) (n1 n2 c1 c2 : Nat) (xs : List Nat) (w : World) (h1 : Rb w p1 n1 xs) (h2 : Rb w p2 n2 xs) :
    Calls Tryd.prog 85 #[.agg #[.int .i64 aid, .int .i64 says, .slice p1 n1 c1], .agg #[.int .i64 aid, .int .i64 says, .slice p2 n2 c2]] w fun e w' => e = .returned (.bool true) ∧ Kp (fun _ => False) w w' := by
  have HB : Hid (∀ u, Kp (fun _ => False) w u → Calls _ _ _ u _) := fun u k => bytes_same p1 p2 n1 n2 c1 c2 xs u (h1.keep0 k) (h2.keep0 k)
  clear h1 h2
  have k0 : Kp (fun _ => False) w ((w.alloc (.cells #[.int .i64 aid, .int .i64 says, .slice p1 n1 c1] 96)).alloc (.cells #[.int .i64 aid, .int .i64 says, .slice p2 n2 c2] 96)) := ((Kp.refl _ _).alloc _).alloc _
  go_enter Tryd.func85, Tryd.ntmps85
  go_wp2_with (go_at_call 18; refine (HB.out _ k0).mono ?_; rintro e w1 ⟨rfl, hw1⟩; subst hw1)
  go_ret
  exact ⟨rfl, k0⟩

abbrev toldA (aid says : Int) (p : Option Addr) (n c : Nat) : List Value := [.int .i64 aid, .int .i64 says, .slice p n c]
theorem szTold : (Tryd.prog.info? 96).map (·.size) = some 3 := by kernel_rfl
theorem dsTold : ∃ d, Tryd.prog.underlying 96 = some d ∧ d.isRow = true := ⟨_, Tryd.underlying96, rfl⟩
theorem told_one (aid says : Int) (p : Option Addr) (n c : Nat) : (toldA aid says p n c).toArray.all (·.oneCell') = true := all_oneCell_toArray (fun x hx => by
  simp only [List.mem_cons, List.not_mem_nil, or_false] at hx
  rcases hx with rfl | rfl | rfl <;> rfl)
set_option maxRecDepth 100000 in
set_option maxHeartbeats 1600000 in
theorem eqf_told1 (aid says : Int) (p1 p2 : Option Addr) (n1 n2 d1 d2 : Nat) (xs : List Nat) (g1 g2 c1 c2 : Nat) (w : World) (h1 : Lv w g1 (toldA aid says p1 n1 d1)) (h2 : Lv w g2 (toldA aid says p2 n2 d2)) (r1 : Rb w p1 n1 xs) (r2 : Rb w p2 n2 xs) :
    Calls Tryd.prog 84 #[.slice (some ⟨g1, 0, none⟩) 1 c1, .slice (some ⟨g2, 0, none⟩) 1 c2, .func (.func 85) #[] #[]] w fun e w' => e = .returned (.bool true) ∧ Kp (fun _ => False) w w' := by
  have HSv : Hid (∀ u, Kp (fun _ => False) w u → Calls _ _ _ u _) := fun u k => told_same aid says p1 p2 n1 n2 d1 d2 xs u (r1.keep0 k) (r2.keep0 k)
  have HR1 : Hid (Lv w g1 (toldA aid says p1 n1 d1)) := h1
  have HR2 : Hid (∀ u, Kp (fun _ => False) w u → Lv u g2 (toldA aid says p2 n2 d2)) := fun u k => h2.keep k id
  have HO1 : Hid ((toldA aid says p1 n1 d1).toArray.all (·.oneCell') = true) := told_one _ _ _ _ _
  have HO2 : Hid ((toldA aid says p2 n2 d2).toArray.all (·.oneCell') = true) := told_one _ _ _ _ _
  clear h1 h2 r1 r2
  go_enter Tryd.func84, Tryd.ntmps84
  go_wp2
  go_loopg [17] 1 (fun gk i wr => ∃ k : Nat, k ≤ 1 ∧ gk = 1 - k ∧ i = .int .i64 k ∧ (k = 0 → wr = w) ∧ Kp (fun _ => False) w wr)
  case atStart => exact ⟨0, by omega, rfl, rfl, fun _ => rfl, Kp.refl _ _⟩
  case round =>
    obtain ⟨k, hk, rfl, rfl, h0, hK⟩ := hrel
    by_cases hk0 : k = 0
    · subst hk0
      obtain rfl := h0 rfl
      clear h0 hK
      go_wp2_with (first
        | (refine wpList_load_all rfl 96 _ rfl 3 g1 (toldA aid says p1 n1 d1) rfl HR1.out dsTold szTold rfl ?_)
        | (refine wpList_store_all rfl 96 _ _ rfl 3 wr.heap.size [.int .i64 0, .int .i64 0, .slice none 0 0] (toldA aid says p1 n1 d1) rfl rfl (by exact Lv.new wr _ _) szTold rfl rfl HO1.out ?_; intro u2 hl2 k2; have ku2 : Kp (fun _ => False) wr u2 := ((Kp.refl (fun _ => False) wr).alloc _).trans k2 (fun b hb e => by omega); have HR2' : Hid (Lv u2 g2 (toldA aid says p2 n2 d2)) := HR2.out u2 ku2; have HL2 : Hid (Lv u2 wr.heap.size (toldA aid says p1 n1 d1)) := hl2; clear hl2 k2)
        | (refine wpList_load_all rfl 96 _ rfl 3 g2 (toldA aid says p2 n2 d2) rfl HR2'.out dsTold szTold rfl ?_)
        | (refine wpList_store_all rfl 96 _ _ rfl 3 u2.heap.size [.int .i64 0, .int .i64 0, .slice none 0 0] (toldA aid says p2 n2 d2) rfl rfl (by exact Lv.new u2 _ _) szTold rfl rfl HO2.out ?_; intro u3 hl3 k3; have ku3 : Kp (fun _ => False) u2 u3 := ((Kp.refl (fun _ => False) u2).alloc _).trans k3 (fun b hb e => by omega); have HL3 : Hid (Lv u3 u2.heap.size (toldA aid says p2 n2 d2)) := hl3; have HL2' : Hid (Lv u3 wr.heap.size (toldA aid says p1 n1 d1)) := HL2.out.keep ku3 id; have kw3 := ku2.trans ku3 (fun _ _ e => e); clear hl3 k3)
        | (refine wpList_load_all rfl 96 _ rfl 3 wr.heap.size (toldA aid says p1 n1 d1) rfl HL2'.out dsTold szTold rfl ?_)
        | (refine wpList_load_all rfl 96 _ rfl 3 u2.heap.size (toldA aid says p2 n2 d2) rfl HL3.out dsTold szTold rfl ?_)
        | (go_at_call 85; refine (HSv.out _ kw3).mono ?_; rintro e u4 ⟨rfl, k4⟩))
      go_roundg 0
      case rel => exact ⟨1, by omega, rfl, by go_num, fun h => absurd h (by decide), kw3.trans k4 (fun _ _ e => e)⟩
      case measure => omega
    · obtain rfl : k = 1 := by omega
      go_wp2
      go_ret
      exact ⟨rfl, hK⟩

set_option maxRecDepth 100000 in
set_option maxHeartbeats 800000 in
theorem same_told1 (aid says : Int) (p1 p2 : Option Addr) (n1 n2 d1 d2 : Nat) (xs : List Nat) (g1 g2 c1 c2 : Nat) (w : World) (h1 : Lv w g1 (toldA aid says p1 n1 d1)) (h2 : Lv w g2 (toldA aid says p2 n2 d2)) (r1 : Rb w p1 n1 xs) (r2 : Rb w p2 n2 xs) :
    Calls Tryd.prog 43 #[.slice (some ⟨g1, 0, none⟩) 1 c1, .slice (some ⟨g2, 0, none⟩) 1 c2] w fun e w' => e = .returned (.bool true) ∧ Kp (fun _ => False) w w' := by
  have H : Hid (Calls _ _ _ w _) := eqf_told1 aid says p1 p2 n1 n2 d1 d2 xs g1 g2 c1 c2 w h1 h2 r1 r2
  clear h1 h2 r1 r2
  go_enter Tryd.func43, Tryd.ntmps43
  go_wp2_with (go_at_call 84; refine H.out.mono ?_; rintro e w1 ⟨rfl, k1⟩)
  go_ret
  exact ⟨rfl, k1⟩

set_option maxRecDepth 100000 in
set_option maxHeartbeats 800000 in
theorem may_del (w : World) : Calls Tryd.prog 68 #[.agg #[.int .i64 7, .int .i64 3, .string keyA, .slice none 0 0]] w fun e w' => e = .returned (.bool true) ∧ Kp (fun _ => False) w w' := by
  have H1 : Hid (∀ u, Calls _ _ _ u _) := fun u => cmdOf_del u
  have H2 : Hid (∀ u, Calls _ _ _ u _) := fun u => key_a u
  go_enter Tryd.func68, Tryd.ntmps68
  go_wp2_with (first
    | (go_at_call 69; refine (H1.out _).mono ?_; rintro e w1 ⟨rfl, hw1⟩; subst hw1)
    | (go_at_call 100; refine (H2.out _).mono ?_; rintro e w1 ⟨rfl, hw1⟩; subst hw1))
  go_ret
  exact ⟨rfl, (Kp.refl _ _).alloc _⟩

abbrev cmDel : Cs0 := ⟨5, 3, keyA, 0, 0, 0, 0, 0, 0, 0, 0⟩
abbrev askDel : Array Value := #[.int .i64 7, .int .i64 3, .string keyA, .slice none 0 0]
set_option maxRecDepth 100000 in
set_option maxHeartbeats 1600000 in
theorem new_del (w : World) : Calls Tryd.prog 34 #[.int .i64 1, .agg askDel, .int .i64 5, .int .i64 0] w fun e w' => ∃ c, e = .returned (.tuple #[.pointer (some ⟨c, 0, none⟩), .int .i64 0]) ∧ Kp (fun _ => False) w w' ∧ w.heap.size ≤ c ∧ Lv w' c (callA 1 7 0 cmDel (.slice none 0 0) false (.slice none 0 0) (.pointer none) (.pointer none)) := by
  have H1 : Hid (∀ u, Calls _ _ _ u _) := fun u => isNode_ok 1 u
  have H2 : Hid (∀ u, Calls _ _ _ u _) := fun u => may_del u
  have H3 : Hid (∀ u, Calls _ _ _ u _) := fun u => cmdOf_del u
  have k0 : Kp (fun _ => False) w (w.alloc (.cells askDel 81)) := (Kp.refl _ _).alloc _
  have HL : Hid (Lv (w.alloc (.cells askDel 81)) w.heap.size askDel.toList) := Lv.new w _ _
  go_enter Tryd.func34, Tryd.ntmps34
  go_wp2_with (first
    | (go_at_call 48; refine (H1.out _).mono ?_; rintro e w1 ⟨rfl, hw1⟩; subst hw1)
    | (go_at_call 68; refine (H2.out _).mono ?_; rintro e w1 ⟨rfl, k1⟩))
  have kd : Kp (fun _ => False) (w.alloc (.cells askDel 81)) w1.drew := k1.drew
  have l1 : Lv w1.drew w.heap.size askDel.toList := HL.out.keep kd id
  have ka : Kp (fun _ => False) w1.drew (w1.drew.alloc (.cells #[.int .i64 1, .int .i64 7, .int .i64 0, .int .i64 5, .int .i64 3, .string keyA, .int .i64 0, .int .i64 0, .int .i64 0, .int .i64 0, .int .i64 0, .int .u32 0, .int .i64 0, .int .i64 0, .slice none 0 0, .bool false, .slice none 0 0, .pointer none, .pointer none] 106)) := (Kp.refl _ _).alloc _
  have l2 := l1.keep ka id
  refine cn3_region ⟨by kernel_rfl, by kernel_rfl, by kernel_rfl, by kernel_rfl, by kernel_rfl, by kernel_rfl, by kernel_rfl, by kernel_rfl, by kernel_rfl, by kernel_rfl, by kernel_rfl, by kernel_rfl, by kernel_rfl, by kernel_rfl, by kernel_rfl, by kernel_rfl, by kernel_rfl, by kernel_rfl, by kernel_rfl, by kernel_rfl, by kernel_rfl, by kernel_rfl⟩ w.heap.size 1 7 3 3 5 0 keyA (fun d _ _ _ _ h => by cases d <;> exact h) (by rfl) (by rfl) (by rfl) (by rfl) (by rfl) ⟨l1.cell (j := 0) rfl, l1.cell (j := 1) rfl, l1.cell (j := 2) rfl⟩ ⟨l2.cell (j := 0) rfl, l2.cell (j := 1) rfl, l2.cell (j := 2) rfl⟩ (H3.out _) ?_
  simp only [Act.put, List.setIfInBounds_toArray, List.set_cons_succ, List.set_cons_zero]
  have d1 := l2.cell (j := 1) rfl
  have hl : Lv (w1.drew.alloc (.cells #[.int .i64 1, .int .i64 7, .int .i64 0, .int .i64 5, .int .i64 3, .string keyA, .int .i64 0, .int .i64 0, .int .i64 0, .int .i64 0, .int .i64 0, .int .u32 0, .int .i64 0, .int .i64 0, .slice none 0 0, .bool false, .slice none 0 0, .pointer none, .pointer none] 106)) w1.drew.heap.size (callA 1 7 0 cmDel (.slice none 0 0) false (.slice none 0 0) (.pointer none) (.pointer none)) := Lv.new w1.drew _ _
  have hk := (k0.trans kd (fun _ _ e => e)).trans ka (fun _ _ e => e)
  have hsz := (k0.trans kd (fun _ _ e => e)).size
  obtain ⟨z, hz⟩ : ∃ x, x = (w1.drew.alloc (.cells #[.int .i64 1, .int .i64 7, .int .i64 0, .int .i64 5, .int .i64 3, .string keyA, .int .i64 0, .int .i64 0, .int .i64 0, .int .i64 0, .int .i64 0, .int .u32 0, .int .i64 0, .int .i64 0, .slice none 0 0, .bool false, .slice none 0 0, .pointer none, .pointer none] 106)) := ⟨_, rfl⟩
  rw [← hz] at hl hk d1 ⊢
  have HH : Hid (Lv z w1.drew.heap.size (callA 1 7 0 cmDel (.slice none 0 0) false (.slice none 0 0) (.pointer none) (.pointer none)) ∧ Kp (fun _ => False) w z ∧ w.heap.size ≤ w1.drew.heap.size) := ⟨hl, hk, hsz⟩
  obtain ⟨g, hg⟩ : ∃ g, g = w1.drew.heap.size := ⟨_, rfl⟩
  rw [← hg] at HH ⊢
  clear hg hl hk hsz hz l2 ka l1 kd k1
  go_wp2
  go_ret2
  exact ⟨g, rfl, HH.out.2.1, HH.out.2.2, HH.out.1⟩

set_option maxRecDepth 100000 in
set_option maxHeartbeats 1600000 in
theorem cmd_yes {w : World} {c : Nat} {self aid now : Int} {cm : Cs0} {dn : Bool} {wh st ft : Value} (h : Lv w c (callA self aid now cm (.slice none 0 0) dn wh st ft)) (hs : ∀ u, Kp (fun _ => False) w u → Calls Tryd.prog 79 #[.pointer (some ⟨c, 0, none⟩)] u fun e w' => e = .returned (.bool true) ∧ w' = u) :
    Calls Tryd.prog 39 #[.pointer (some ⟨c, 0, none⟩)] w fun e w' => ∃ q cq, e = .returned (.tuple #[.agg (cmdA cm (.slice q 0 cq)), .bool true]) ∧ Kp (fun _ => False) w w' := by
  have k0 : Kp (fun _ => False) w (w.alloc (.cells zeroC 42)) := (Kp.refl _ _).alloc _
  have H : Hid (Calls Tryd.prog 79 #[.pointer (some ⟨c, 0, none⟩)] (w.alloc (.cells zeroC 42)) fun e w' => e = .returned (.bool true) ∧ w' = (w.alloc (.cells zeroC 42))) := hs _ k0
  have HL : Hid (Lv (w.alloc (.cells zeroC 42)) w.heap.size zeroC.toList) := Lv.new w _ _
  have lc := h.keep k0 id
  have HR : Hid ((w.alloc (.cells zeroC 42)).rangeAt c 3 (cmdA cm (.slice none 0 0)).toList) := fun j u hu => by
    have hj : j < 12 := by have := (List.getElem?_eq_some_iff.1 hu).1; simpa using this
    have := lc.r (3 + j) u (by rw [← hu]; rcases j with _ | _ | _ | _ | _ | _ | _ | _ | _ | _ | _ | _ | j <;> first | rfl | omega)
    rwa [Nat.zero_add] at this
  have HC : Hid (Calls _ _ _ (w.alloc (.cells zeroC 42)) _) := clone_cmd cm (fun _ => True) none 0 [] (w.alloc (.cells zeroC 42)) (fun j u hu => by simp at hu) (show _ ≤ _ by simp)
  obtain ⟨dc, hdc1, hdc2⟩ := dsCmd
  clear h hs lc
  go_enter Tryd.func39, Tryd.ntmps39
  go_wp2_with (first
    | (go_at_call 79; refine H.out.mono ?_; rintro e w1 ⟨rfl, hw1⟩; subst hw1)
    | (refine wpList_load_mid rfl 42 _ rfl c 3 rfl (cmdA cm (.slice none 0 0)).toList dc HR.out hdc1 hdc2 (by rw [szCmd]; rfl) ?_)
    | (go_at_call 83; refine HC.out.mono ?_; rintro e w2 ⟨q, cq, rfl, k2, hfl⟩; have HL2 : Hid (Lv w2 w.heap.size zeroC.toList) := HL.out.keep k2 id; have HO : Hid ((cmdA cm (.slice q 0 cq)).toList.toArray.all (·.oneCell') = true) := cmd_one cm rfl)
    | (refine wpList_store_all rfl 42 _ _ rfl 12 w.heap.size zeroC.toList (cmdA cm (.slice q 0 cq)).toList rfl rfl HL2.out szCmd rfl rfl HO.out ?_; intro w3 hl3 k3))
  refine bodyPost_ret (res_cell_tmp Tryd.results39 _ _ w.heap.size _ rfl (hl3.load ⟨dc, hdc1, hdc2⟩ szCmd rfl)) rfl ?_
  first | exact ⟨⟨q, cq, rfl⟩, (k0.trans k2 (fun _ _ e => e)).trans k3 (fun b hb e => by omega)⟩ | exact ⟨q, cq, rfl, (k0.trans k2 (fun _ _ e => e)).trans k3 (fun b hb e => by omega)⟩
end Go.Proofs.YtmncocmeafcpfaaDoor

/- The field of 256 numbers, over natural numbers: sums are xor, products are carry-less products with the remainder by 0x11d. No Go in sight. -/
namespace Gf

/-- 2 to the k-th, for k below 15. -/
def pw (k : Nat) : Nat := [1, 2, 4, 8, 16, 32, 64, 128, 29, 58, 116, 232, 205, 135, 19].getD k 0

def st (k : Nat) : Nat := [1, 38, 96, 193, 185, 15, 223, 26, 59, 169, 85, 145, 150, 100, 89, 36, 44].getD k 0

/-- the carry-less product with the first k bits of b -/
def cl (a b : Nat) : Nat → Nat
  | 0 => 0
  | k + 1 => cl a b k ^^^ ((a <<< k) * ((b >>> k) &&& 1))

/-- the remainder, of the first k bits -/
def rm (x : Nat) : Nat → Nat
  | 0 => 0
  | k + 1 => rm x k ^^^ (pw k * ((x >>> k) &&& 1))

def mul (a b : Nat) : Nat := rm (cl a b 8) 15

theorem bit01 (x k : Nat) : (x >>> k) &&& 1 = 0 ∨ (x >>> k) &&& 1 = 1 := by
  rw [Nat.and_one_is_mod]; omega

theorem bit_xor (x y k : Nat) : ((x ^^^ y) >>> k) &&& 1 = ((x >>> k) &&& 1) ^^^ ((y >>> k) &&& 1) := by
  rw [Nat.shiftRight_xor_distrib, Nat.and_xor_distrib_right]

theorem mul_bit_xor (c x y k : Nat) : c * (((x ^^^ y) >>> k) &&& 1) = c * ((x >>> k) &&& 1) ^^^ c * ((y >>> k) &&& 1) := by
  rw [bit_xor]
  rcases bit01 x k with h | h <;> rcases bit01 y k with h' | h' <;> simp [h, h']

theorem xor_mul_bit (c d x k : Nat) : (c ^^^ d) * ((x >>> k) &&& 1) = c * ((x >>> k) &&& 1) ^^^ d * ((x >>> k) &&& 1) := by
  rcases bit01 x k with h | h <;> simp [h]

theorem xor4 (a b c d : Nat) : (a ^^^ b) ^^^ (c ^^^ d) = (a ^^^ c) ^^^ (b ^^^ d) := by
  rw [Nat.xor_assoc, Nat.xor_assoc, ← Nat.xor_assoc b c d, Nat.xor_comm b c, Nat.xor_assoc c b d]

theorem cl_xor_right (a b c : Nat) : ∀ k, cl a (b ^^^ c) k = cl a b k ^^^ cl a c k
  | 0 => by simp [cl]
  | k + 1 => by
    simp only [cl]; rw [cl_xor_right a b c k, mul_bit_xor, xor4]

theorem cl_xor_left (a b c : Nat) : ∀ k, cl (a ^^^ b) c k = cl a c k ^^^ cl b c k
  | 0 => by simp [cl]
  | k + 1 => by
    simp only [cl]; rw [cl_xor_left a b c k, Nat.shiftLeft_xor_distrib, xor_mul_bit, xor4]

theorem rm_xor (x y : Nat) : ∀ k, rm (x ^^^ y) k = rm x k ^^^ rm y k
  | 0 => by simp [rm]
  | k + 1 => by
    simp only [rm]; rw [rm_xor x y k, mul_bit_xor, xor4]

theorem mul_xor_right (a b c : Nat) : mul a (b ^^^ c) = mul a b ^^^ mul a c := by
  unfold mul; rw [cl_xor_right, rm_xor]

theorem mul_xor_left (a b c : Nat) : mul (a ^^^ b) c = mul a c ^^^ mul b c := by
  unfold mul; rw [cl_xor_left, rm_xor]

theorem cl_zero_left (b : Nat) : ∀ k, cl 0 b k = 0
  | 0 => rfl
  | k + 1 => by simp [cl, cl_zero_left b k]
theorem cl_zero_right (a : Nat) : ∀ k, cl a 0 k = 0
  | 0 => rfl
  | k + 1 => by simp [cl, cl_zero_right a k]
theorem rm_zero : ∀ k, rm 0 k = 0
  | 0 => rfl
  | k + 1 => by simp [rm, rm_zero k]
theorem zero_mul (b : Nat) : mul 0 b = 0 := by unfold mul; rw [cl_zero_left]; rfl
theorem mul_zero (b : Nat) : mul b 0 = 0 := by unfold mul; rw [cl_zero_right]; rfl

theorem split_bit (x n : Nat) (h : x < 2 ^ (n + 1)) : ∃ y, y < 2 ^ n ∧ (x = y ∨ x = y ^^^ 2 ^ n) := by
  by_cases hx : x < 2 ^ n
  · exact ⟨x, hx, Or.inl rfl⟩
  · refine ⟨x - 2 ^ n, by rw [Nat.pow_succ] at h; omega, Or.inr ?_⟩
    have h1 : x - 2 ^ n < 2 ^ n := by rw [Nat.pow_succ] at h; omega
    have := Nat.two_pow_add_eq_or_of_lt h1 1
    have e : (2 ^ n * 1 ||| (x - 2 ^ n)) = (2 ^ n ^^^ (x - 2 ^ n)) := by
      apply Nat.eq_of_testBit_eq
      intro i
      simp [Nat.testBit_or, Nat.testBit_xor, Nat.testBit_two_pow]
      by_cases hi : n = i
      · subst hi
        simp [Nat.testBit_lt_two_pow h1]
      · simp [hi]
    rw [Nat.xor_comm, ← e, ← this]; omega

/-- two functions that are linear, and agree on powers of two, agree -/
theorem linear_ext (f g : Nat → Nat) (hf : ∀ x y, f (x ^^^ y) = f x ^^^ f y) (hg : ∀ x y, g (x ^^^ y) = g x ^^^ g y) (h0 : f 0 = g 0) :
    ∀ n, (∀ i, i < n → f (2 ^ i) = g (2 ^ i)) → ∀ x, x < 2 ^ n → f x = g x
  | 0, _, x, hx => by
    have : x = 0 := by simpa using hx
    rw [this, h0]
  | n + 1, h, x, hx => by
    obtain ⟨y, hy, e | e⟩ := split_bit x n hx
    · rw [e]; exact linear_ext f g hf hg h0 n (fun i hi => h i (by omega)) y hy
    · rw [e, hf, hg, linear_ext f g hf hg h0 n (fun i hi => h i (by omega)) y hy, h n (by omega)]

theorem mul_comm (a b : Nat) (ha : a < 256) (hb : b < 256) : mul a b = mul b a := by
  refine linear_ext (fun a => mul a b) (fun a => mul b a) (fun x y => mul_xor_left x y b) (fun x y => mul_xor_right b x y) (by simp [zero_mul, mul_zero]) 8 ?_ a ha
  intro i hi
  refine linear_ext (fun b => mul (2 ^ i) b) (fun b => mul b (2 ^ i)) (fun x y => mul_xor_right _ x y) (fun x y => mul_xor_left x y _) (by simp [zero_mul, mul_zero]) 8 ?_ b hb
  have h : ∀ i, i < 8 → ∀ j, j < 8 → mul (2 ^ i) (2 ^ j) = mul (2 ^ j) (2 ^ i) := by decide +kernel
  exact h i hi

theorem mul_one (a : Nat) (ha : a < 256) : mul a 1 = a := by
  have h : ∀ a, a < 256 → mul a 1 = a := by decide +kernel
  exact h a ha

theorem mul_lt (a b : Nat) : mul a b < 256 := by
  have h : ∀ k, k ≤ 15 → ∀ x, rm x k < 256 := by
    intro k
    induction k with
    | zero => intro _ x; simp [rm]
    | succ k ih =>
      intro hk x
      simp only [rm]
      have hp : ∀ k, k < 15 → pw k < 2 ^ 8 := by decide
      refine Nat.xor_lt_two_pow (n := 8) (ih (by omega) x) ?_
      rcases bit01 x k with e | e <;> simp [e]
      exact hp k (by omega)
  exact h 15 (by omega) _

theorem mul_assoc (a b c : Nat) (ha : a < 256) (hb : b < 256) (hc : c < 256) : mul (mul a b) c = mul a (mul b c) := by
  refine linear_ext (fun a => mul (mul a b) c) (fun a => mul a (mul b c)) (fun x y => by rw [mul_xor_left, mul_xor_left]) (fun x y => mul_xor_left x y _) (by simp [zero_mul]) 8 ?_ a ha
  intro i hi
  refine linear_ext (fun b => mul (mul (2 ^ i) b) c) (fun b => mul (2 ^ i) (mul b c)) (fun x y => by rw [mul_xor_right, mul_xor_left]) (fun x y => by rw [mul_xor_left, mul_xor_right]) (by simp [zero_mul, mul_zero]) 8 ?_ b hb
  intro j hj
  refine linear_ext (fun c => mul (mul (2 ^ i) (2 ^ j)) c) (fun c => mul (2 ^ i) (mul (2 ^ j) c)) (fun x y => by rw [mul_xor_right]) (fun x y => by rw [mul_xor_right, mul_xor_right]) (by simp [mul_zero]) 8 ?_ c hc
  intro k hk
  have h : ∀ i, i < 8 → ∀ j, j < 8 → ∀ k, k < 8 → mul (mul (2 ^ i) (2 ^ j)) (2 ^ k) = mul (2 ^ i) (mul (2 ^ j) (2 ^ k)) := by decide +kernel
  exact h i hi j hj k hk

/-- a product of n times a -/
def pow (a : Nat) : Nat → Nat
  | 0 => 1
  | n + 1 => mul a (pow a n)

theorem pow_lt (a : Nat) (_ha : a < 256) : ∀ n, pow a n < 256
  | 0 => by simp [pow]
  | _ + 1 => mul_lt _ _

theorem one_mul (a : Nat) (ha : a < 256) : mul 1 a = a := by
  rw [mul_comm 1 a (by omega) ha, mul_one a ha]

theorem pow_add (a : Nat) (ha : a < 256) (m : Nat) : ∀ n, pow a (n + m) = mul (pow a n) (pow a m)
  | 0 => by rw [Nat.zero_add, pow, one_mul _ (pow_lt a ha m)]
  | n + 1 => by
    rw [show n + 1 + m = (n + m) + 1 from by omega, pow, pow, pow_add a ha m n, mul_assoc _ _ _ ha (pow_lt a ha n) (pow_lt a ha m)]

theorem pow_mul (a : Nat) (ha : a < 256) (m : Nat) : ∀ n, pow a (m * n) = pow (pow a m) n
  | 0 => rfl
  | n + 1 => by
    rw [Nat.mul_succ, pow_add a ha, pow_mul a ha m n, pow, mul_comm _ _ (pow_lt _ (pow_lt a ha m) n) (pow_lt a ha m)]

theorem one_pow : ∀ n, pow 1 n = 1
  | 0 => rfl
  | n + 1 => by rw [pow, one_pow n]; exact mul_one 1 (by omega)

/-- b to the 255th, by squares (quick to reckon) -/
def p254 (b : Nat) : Nat :=
  let b2 := mul b b; let b4 := mul b2 b2; let b8 := mul b4 b4; let b16 := mul b8 b8
  let b32 := mul b16 b16; let b64 := mul b32 b32; let b128 := mul b64 b64
  mul b2 (mul b4 (mul b8 (mul b16 (mul b32 (mul b64 b128)))))

theorem pow_one (a : Nat) (ha : a < 256) : pow a 1 = a := mul_one a ha
theorem pow_dbl (a : Nat) (ha : a < 256) (n : Nat) : pow a (n + n) = mul (pow a n) (pow a n) := pow_add a ha n n

theorem p254_eq (b : Nat) (hb : b < 256) : pow b 254 = p254 b := by
  have e2 : mul b b = pow b 2 := by rw [pow_dbl b hb 1, pow_one b hb]
  have e4 : mul (pow b 2) (pow b 2) = pow b 4 := (pow_dbl b hb 2).symm
  have e8 : mul (pow b 4) (pow b 4) = pow b 8 := (pow_dbl b hb 4).symm
  have e16 : mul (pow b 8) (pow b 8) = pow b 16 := (pow_dbl b hb 8).symm
  have e32 : mul (pow b 16) (pow b 16) = pow b 32 := (pow_dbl b hb 16).symm
  have e64 : mul (pow b 32) (pow b 32) = pow b 64 := (pow_dbl b hb 32).symm
  have e128 : mul (pow b 64) (pow b 64) = pow b 128 := (pow_dbl b hb 64).symm
  unfold p254
  simp only [e2, e4, e8, e16, e32, e64, e128]
  rw [← pow_add b hb, ← pow_add b hb, ← pow_add b hb, ← pow_add b hb, ← pow_add b hb, ← pow_add b hb]

theorem inv_check : ∀ b, b < 256 → b = 0 ∨ mul b (p254 b) = 1 := by decide +kernel

def inv (b : Nat) : Nat := pow b 254
theorem inv_lt (b : Nat) (hb : b < 256) : inv b < 256 := pow_lt b hb _
theorem mul_inv (b : Nat) (hb : b < 256) (h : b ≠ 0) : mul b (inv b) = 1 := by
  rcases inv_check b hb with e | e
  · exact absurd e h
  · unfold inv; rw [p254_eq b hb, e]

theorem pow_255 (b : Nat) (hb : b < 256) (h : b ≠ 0) : pow b 255 = 1 := mul_inv b hb h

theorem pow_mod (b : Nat) (hb : b < 256) (h : b ≠ 0) (n : Nat) : pow b n = pow b (n % 255) := by
  have e : n = n % 255 + 255 * (n / 255) := by omega
  have := pow_add b hb (255 * (n / 255)) (n % 255)
  rw [← e] at this
  rw [this, pow_mul b hb, pow_255 b hb h, one_pow, mul_one _ (pow_lt b hb _)]

theorem zero_pow (n : Nat) (h : 0 < n) : pow 0 n = 0 := by
  cases n with
  | zero => omega
  | succ n => exact zero_mul _

theorem cancel (x y b : Nat) (hx : x < 256) (hy : y < 256) (hb : b < 256) (h : b ≠ 0) (e : mul x b = mul y b) : x = y := by
  have h1 : mul (mul x b) (inv b) = mul (mul y b) (inv b) := by rw [e]
  rwa [mul_assoc x b _ hx hb (inv_lt b hb), mul_assoc y b _ hy hb (inv_lt b hb), mul_inv b hb h, mul_one x hx, mul_one y hy] at h1

theorem square_xor (a b : Nat) (ha : a < 256) (hb : b < 256) : mul (a ^^^ b) (a ^^^ b) = mul a a ^^^ mul b b := by
  rw [mul_xor_left, mul_xor_right, mul_xor_right, mul_comm b a hb ha, Nat.xor_assoc, ← Nat.xor_assoc (mul a b), Nat.xor_self, Nat.zero_xor]

/-- the power of 2, as the program makes it -/
def ex (n : Nat) : Nat := mul (st (n / 15)) (pw (n % 15))

theorem pow2_check : ∀ n, n < 255 → ex n = pow 2 n := by decide +kernel

/-- the reference's remainder -/
def red (p : Nat) : Nat → Nat
  | 0 => p
  | k + 1 => red (p ^^^ ((0x11d <<< k) * ((p >>> (k + 8)) &&& 1))) k

theorem red_xor : ∀ k x y, red (x ^^^ y) k = red x k ^^^ red y k
  | 0, _, _ => rfl
  | k + 1, x, y => by
    simp only [red]; rw [mul_bit_xor, ← red_xor k, xor4]

theorem red_rm (x : Nat) (hx : x < 32768) : red x 7 % 256 = rm x 15 := by
  refine linear_ext (fun x => red x 7 % 256) (fun x => rm x 15) (fun x y => ?_) (fun x y => rm_xor x y 15) (by decide +kernel) 15 ?_ x hx
  · show red (x ^^^ y) 7 % 256 = (red x 7 % 256) ^^^ (red y 7 % 256)
    rw [red_xor]; exact Nat.xor_mod_two_pow (n := 8)
  · decide +kernel

theorem pow_sq (x : Nat) (hx : x < 256) (h : Nat) : pow (mul x x) h = pow x (2 * h) := by
  rw [pow_mul x hx 2 h]
  congr 1
  exact (congrArg (mul x) (mul_one x hx)).symm
theorem pow_odd (x y M : Nat) (hx : x < 256) (hy : y < 256) (h : M % 2 = 1) : mul (mul y x) (pow (mul x x) (M / 2)) = mul y (pow x M) := by
  rw [pow_sq x hx, mul_assoc y x _ hy hx (pow_lt x hx _)]
  have e : M = 2 * (M / 2) + 1 := by omega
  conv => rhs; rw [e]
  rfl
theorem pow_even (x y M : Nat) (hx : x < 256) (h : M % 2 = 0) : mul y (pow (mul x x) (M / 2)) = mul y (pow x M) := by
  rw [pow_sq x hx]
  have e : 2 * (M / 2) = M := by omega
  rw [e]
/-- a product of so many; 1, where there are none -/
def powI (a : Nat) (n : Int) : Nat := pow a n.toNat

/-- whatever x is found by a search, it is a times the inverse of b -/
theorem div_found (a b x : Nat) (_ha : a < 256) (hb : b < 256) (hx : x < 256) (h0 : b ≠ 0) (e : mul x b = a) : mul a (inv b) = x := by
  rw [← e, mul_assoc x b _ hx hb (inv_lt b hb), mul_inv b hb h0, mul_one x hx]
theorem div_back (a b : Nat) (ha : a < 256) (hb : b < 256) (h0 : b ≠ 0) : mul (mul a (inv b)) b = a := by
  rw [mul_assoc a _ b ha (inv_lt b hb) hb, mul_comm (inv b) b (inv_lt b hb) hb, mul_inv b hb h0, mul_one a ha]
theorem mul_div (a b : Nat) (ha : a < 256) (hb : b < 256) (h0 : b ≠ 0) : mul (mul a b) (inv b) = a := by
  rw [mul_assoc a b _ ha hb (inv_lt b hb), mul_inv b hb h0, mul_one a ha]
/-- each number but 0 is a power of 2 -/
theorem log_check : ∀ a, a < 256 → a = 0 ∨ ∃ n, n < 255 ∧ ex n = a := by
  have h : ∀ a, a < 256 → a = 0 ∨ (List.range 255).any (fun n => ex n == a) = true := by decide +kernel
  intro a ha
  rcases h a ha with e | e
  · exact Or.inl e
  · rw [List.any_eq_true] at e
    obtain ⟨n, hn, he⟩ := e
    exact Or.inr ⟨n, List.mem_range.1 hn, beq_iff_eq.1 he⟩
theorem ex_ne_zero : ∀ n, n < 255 → ex n ≠ 0 := by decide +kernel
theorem ex_lt (n : Nat) : ex n < 256 := mul_lt _ _
end Gf

/- Sums and products of matrices over the field of Gf. No Go in sight. -/
namespace Go.Proofs.YtmncocmeafcpfaaDoor.Mf

theorem xor8 {a b : Nat} (ha : a < 256) (hb : b < 256) : a ^^^ b < 256 := Nat.xor_lt_two_pow (n := 8) ha hb
/-- the sum of the first n -/
def xsum (f : Nat → Nat) : Nat → Nat
  | 0 => 0
  | n + 1 => xsum f n ^^^ f n
theorem xsum_lt {f : Nat → Nat} (hf : ∀ j, f j < 256) : ∀ n, xsum f n < 256
  | 0 => by simp [xsum]
  | n + 1 => xor8 (xsum_lt hf n) (hf n)
theorem xsum_congr {f g : Nat → Nat} : ∀ {n : Nat}, (∀ j, j < n → f j = g j) → xsum f n = xsum g n
  | 0, _ => rfl
  | n + 1, h => by simp only [xsum]; rw [xsum_congr (fun j hj => h j (by omega)), h n (by omega)]
theorem xsum_zero : ∀ n, xsum (fun _ => 0) n = 0
  | 0 => rfl
  | n + 1 => by simp only [xsum]; rw [xsum_zero n, Nat.xor_zero]
theorem xsum_xor (f g : Nat → Nat) : ∀ n, xsum (fun j => f j ^^^ g j) n = xsum f n ^^^ xsum g n
  | 0 => by simp [xsum]
  | n + 1 => by simp only [xsum]; rw [xsum_xor f g n, Gf.xor4]
theorem mul_xsum (c : Nat) (f : Nat → Nat) : ∀ n, Gf.mul c (xsum f n) = xsum (fun j => Gf.mul c (f j)) n
  | 0 => Gf.mul_zero c
  | n + 1 => by simp only [xsum]; rw [Gf.mul_xor_right, mul_xsum c f n]
theorem xsum_mul (c : Nat) (f : Nat → Nat) : ∀ n, Gf.mul (xsum f n) c = xsum (fun j => Gf.mul (f j) c) n
  | 0 => Gf.zero_mul c
  | n + 1 => by simp only [xsum]; rw [Gf.mul_xor_left, xsum_mul c f n]
theorem xsum_swap (f : Nat → Nat → Nat) (m : Nat) : ∀ n, xsum (fun i => xsum (fun j => f i j) m) n = xsum (fun j => xsum (fun i => f i j) n) m
  | 0 => by simp only [xsum]; rw [xsum_zero]
  | n + 1 => by simp only [xsum]; rw [xsum_swap f m n, ← xsum_xor]
theorem xsum_single {f : Nat → Nat} {i : Nat} (h : ∀ j, j ≠ i → f j = 0) : ∀ {n : Nat}, i < n → xsum f n = f i
  | 0, hn => by omega
  | n + 1, hn => by
    simp only [xsum]
    by_cases e : i = n
    · subst e
      rw [xsum_congr (g := fun _ => 0) (fun j hj => h j (by omega)), xsum_zero, Nat.zero_xor]
    · rw [xsum_single h (by omega), h n (by omega), Nat.xor_zero]

/-- the product's entry, of the first j terms -/
def prodTo (a b : Nat → Nat → Nat) (j i k : Nat) : Nat := xsum (fun x => Gf.mul (b x k) (a i x)) j
theorem prodTo_lt (a b : Nat → Nat → Nat) (j i k : Nat) : prodTo a b j i k < 256 := xsum_lt (fun _ => Gf.mul_lt _ _) j
theorem prodTo_congr {a a' b b' : Nat → Nat → Nat} {j i k : Nat} (ha : ∀ x, x < j → a i x = a' i x) (hb : ∀ x, x < j → b x k = b' x k) : prodTo a b j i k = prodTo a' b' j i k :=
  xsum_congr (fun x hx => by rw [ha x hx, hb x hx])
/-- products do not hang on the brackets -/
theorem prod_assoc (a b c : Nat → Nat → Nat) (ha : ∀ i j, a i j < 256) (hb : ∀ i j, b i j < 256) (hc : ∀ i j, c i j < 256) (m p i k : Nat) :
    prodTo (fun i k => prodTo a b m i k) c p i k = prodTo a (fun i k => prodTo b c p i k) m i k := by
  unfold prodTo
  rw [xsum_congr (g := fun x => xsum (fun y => Gf.mul (c x k) (Gf.mul (b y x) (a i y))) m) (fun x _ => mul_xsum _ _ _),
    xsum_congr (n := m) (g := fun y => xsum (fun x => Gf.mul (Gf.mul (c x k) (b y x)) (a i y)) p) (fun y _ => xsum_mul _ _ _),
    xsum_swap]
  exact xsum_congr (fun y _ => xsum_congr (fun x _ => (Gf.mul_assoc _ _ _ (hc _ _) (hb _ _) (ha _ _)).symm))

/-- ones on the diagonal, of the first k rows -/
def ones (k : Nat) : Nat → Nat → Nat := fun i j => if i < k ∧ i = j then 1 else 0
theorem ones_zero : ones 0 = fun _ _ => 0 := by funext i j; unfold ones; rw [if_neg (by omega)]
theorem ones_lt (k i j : Nat) : ones k i j < 256 := by unfold ones; split <;> omega
theorem ones_succ_here (k j : Nat) : ones (k + 1) k j = if j = k then 1 else ones k k j := by
  unfold ones
  by_cases e : j = k
  · subst e; simp
  · rw [if_neg e, if_neg (by omega), if_neg (by omega)]
theorem ones_succ_other (k i j : Nat) (h : i ≠ k) : ones (k + 1) i j = ones k i j := by
  unfold ones
  by_cases e : i < k ∧ i = j
  · rw [if_pos e, if_pos (by omega)]
  · rw [if_neg e, if_neg (by omega)]
theorem ones_ne (k i j : Nat) (h : j ≠ i) : ones k i j = 0 := if_neg (by omega)
theorem ones_self (k i : Nat) (h : i < k) : ones k i i = 1 := if_pos ⟨h, rfl⟩
/-- ones, times a matrix -/
theorem ones_prod (b : Nat → Nat → Nat) (hb : ∀ i j, b i j < 256) (n i k : Nat) (hi : i < n) : prodTo (ones n) b n i k = b i k := by
  unfold prodTo
  rw [xsum_single (i := i) (fun j hj => by rw [ones_ne n i j hj, Gf.mul_zero]) hi, ones_self n i hi, Gf.mul_one _ (hb _ _)]
/-- a matrix, times ones -/
theorem prod_ones (a : Nat → Nat → Nat) (ha : ∀ i j, a i j < 256) (n i k : Nat) (hk : k < n) : prodTo a (ones n) n i k = a i k := by
  unfold prodTo
  rw [xsum_single (i := k) (fun j hj => by rw [ones_ne n j k (fun e => hj e.symm), Gf.zero_mul]) hk, ones_self n k hk, Gf.one_mul _ (ha _ _)]
end Go.Proofs.YtmncocmeafcpfaaDoor.Mf

/- Elimination over the field of Gf: what its steps keep, what it finds, and when it fails. No Go in sight. -/
namespace Go.Proofs.YtmncocmeafcpfaaDoor.Mf

theorem xor_cancel (a b : Nat) : a ^^^ b ^^^ b = a := by rw [Nat.xor_assoc, Nat.xor_self, Nat.xor_zero]
theorem xsum_update (f : Nat → Nat) (i a : Nat) : ∀ n, i < n → xsum (fun x => if x = i then a else f x) n = xsum f n ^^^ f i ^^^ a
  | 0, h => by omega
  | n + 1, h => by
    simp only [xsum]
    by_cases e : i = n
    · subst e
      rw [if_pos rfl, xsum_congr (g := f) (fun j hj => if_neg (by omega)), xor_cancel]
    · rw [xsum_update f i a n (by omega), if_neg (by omega)]
      rw [Nat.xor_assoc (xsum f n), Nat.xor_assoc (xsum f n), Nat.xor_assoc (xsum f n), Nat.xor_assoc (xsum f n)]
      congr 1
      rw [Nat.xor_comm (f i ^^^ a) (f n), Nat.xor_assoc]
/-- a sum does not hang on which of two places its terms stand at -/
theorem xsum_transpose (f : Nat → Nat) (i j n : Nat) (hi : i < n) (hj : j < n) : xsum (fun x => if x = i then f j else if x = j then f i else f x) n = xsum f n := by
  by_cases e : i = j
  · subst e
    exact xsum_congr (fun x _ => by split <;> simp_all)
  · have h1 := xsum_update (fun x => if x = j then f i else f x) i (f j) n hi
    have h2 := xsum_update f j (f i) n hj
    rw [h1, if_neg e, h2, xor_cancel, xor_cancel]

/-- a matrix, with ones beside it -/
def wide (A : Nat → Nat → Nat) (n : Nat) : Nat → Nat → Nat := fun r c => if c < n then A r c else if c = n + r then 1 else 0
theorem wide_lt {A : Nat → Nat → Nat} (hA : ∀ i j, A i j < 256) (n r c : Nat) : wide A n r c < 256 := by
  unfold wide; split
  · exact hA r c
  · split <;> omega

/-- row j is brought to place i, and begins with a one there -/
def brought (W : Nat → Nat → Nat) (i j : Nat) : Nat → Nat → Nat := fun r c => if r = i then Gf.mul (W j c) (Gf.inv (W j i)) else if r = j then W i c else W r c
/-- column i has noughts, but in row i -/
def cleared (W : Nat → Nat → Nat) (i : Nat) : Nat → Nat → Nat := fun r c => if r = i then W i c else if i ≤ c then W r c ^^^ Gf.mul (W i c) (W r i) else W r c
def Piv (W : Nat → Nat → Nat) (n i j : Nat) : Prop := i ≤ j ∧ j < n ∧ W j i ≠ 0 ∧ ∀ j', i ≤ j' → j' < j → W j' i = 0
def NoPiv (W : Nat → Nat → Nat) (n i : Nat) : Prop := ∀ j, i ≤ j → j < n → W j i = 0
theorem Piv.unique {W : Nat → Nat → Nat} {n i j k : Nat} (a : Piv W n i j) (b : Piv W n i k) : j = k := by
  by_cases h : j < k
  · exact absurd (b.2.2.2 j a.1 h) a.2.2.1
  · by_cases h' : k < j
    · exact absurd (a.2.2.2 k b.1 h') b.2.2.1
    · omega
theorem brought_lt {W : Nat → Nat → Nat} (h : ∀ r c, W r c < 256) (i j r c : Nat) : brought W i j r c < 256 := by
  unfold brought; split
  · exact Gf.mul_lt _ _
  · split
    · exact h _ _
    · exact h _ _
theorem cleared_lt {W : Nat → Nat → Nat} (h : ∀ r c, W r c < 256) (i r c : Nat) : cleared W i r c < 256 := by
  unfold cleared; split
  · exact h _ _
  · split
    · exact xor8 (h _ _) (Gf.mul_lt _ _)
    · exact h _ _

/-- what stands in the wide rows when i columns are done -/
inductive El (A : Nat → Nat → Nat) (n : Nat) : Nat → (Nat → Nat → Nat) → Prop
  | start : El A n 0 (wide A n)
  | step {i j : Nat} {W : Nat → Nat → Nat} : El A n i W → i < n → Piv W n i j → El A n (i + 1) (cleared (brought W i j) i)

theorem El.unique {A : Nat → Nat → Nat} {n : Nat} : ∀ {i : Nat} {W V : Nat → Nat → Nat}, El A n i W → El A n i V → W = V
  | 0, _, _, .start, .start => rfl
  | _ + 1, _, _, .step a _ p, .step b _ q => by
    obtain rfl := El.unique a b
    rw [p.unique q]

/-- what each step keeps -/
structure Keeps (A : Nat → Nat → Nat) (n i : Nat) (W : Nat → Nat → Nat) : Prop where
  abyte : ∀ r c, A r c < 256
  byte : ∀ r c, W r c < 256
  unit : ∀ r c, r < n → c < i → W r c = if r = c then 1 else 0
  back : ∃ F : Nat → Nat → Nat, (∀ r c, F r c < 256) ∧ ∀ r c, r < n → c < 2 * n → prodTo F W n r c = wide A n r c
  forth : ∃ G : Nat → Nat → Nat, (∀ r c, G r c < 256) ∧ ∀ r c, r < n → c < 2 * n → prodTo G (wide A n) n r c = W r c

theorem keeps_start {A : Nat → Nat → Nat} (hA : ∀ i j, A i j < 256) (n : Nat) : Keeps A n 0 (wide A n) :=
  ⟨hA, wide_lt hA n, fun r c _ h => by omega, ⟨ones n, ones_lt n, fun r c hr _ => ones_prod _ (wide_lt hA n) n r c hr⟩, ⟨ones n, ones_lt n, fun r c hr _ => ones_prod _ (wide_lt hA n) n r c hr⟩⟩

theorem mul_inv_mul (a s f : Nat) (ha : a < 256) (hs : s < 256) (hf : f < 256) (h : s ≠ 0) : Gf.mul (Gf.mul a (Gf.inv s)) (Gf.mul f s) = Gf.mul a f := by
  have hi := Gf.inv_lt s hs
  rw [Gf.mul_assoc a (Gf.inv s) _ ha hi (Gf.mul_lt _ _), Gf.mul_comm f s hf hs, ← Gf.mul_assoc (Gf.inv s) s f hi hs hf, Gf.mul_comm (Gf.inv s) s hi hs, Gf.mul_inv s hs h, Gf.one_mul f hf]

theorem keeps_brought {A : Nat → Nat → Nat} {n i j : Nat} {W : Nat → Nat → Nat} (h : Keeps A n i W) (hi : i < n) (p : Piv W n i j) : Keeps A n i (brought W i j) ∧ (∀ c, c < i → brought W i j i c = 0) ∧ brought W i j i i = 1 := by
  obtain ⟨p1, p2, p3, _⟩ := p
  have hs := h.byte j i
  refine ⟨⟨h.abyte, brought_lt h.byte i j, fun r c hr hc => ?_, ?_, ?_⟩, fun c hc => ?_, ?_⟩
  · unfold brought
    by_cases e1 : r = i
    · rw [if_pos e1, h.unit j c p2 hc, if_neg (by omega), Gf.zero_mul, if_neg (by omega)]
    · rw [if_neg e1]
      by_cases e2 : r = j
      · rw [if_pos e2, h.unit i c hi hc, if_neg (by omega), if_neg (by omega)]
      · rw [if_neg e2]; exact h.unit r c hr hc
  · obtain ⟨F, hF, hFW⟩ := h.back
    refine ⟨fun r x => if x = i then Gf.mul (F r j) (W j i) else if x = j then F r i else F r x, fun r x => ?_, fun r c hr hc => ?_⟩
    · dsimp only
      split
      · exact Gf.mul_lt _ _
      · split
        · exact hF _ _
        · exact hF _ _
    · rw [← hFW r c hr hc]
      unfold prodTo
      rw [← xsum_transpose (fun x => Gf.mul (W x c) (F r x)) i j n hi p2]
      refine xsum_congr (fun x _ => ?_)
      dsimp only [brought]
      by_cases e1 : x = i
      · rw [if_pos e1, if_pos e1, if_pos e1]
        exact mul_inv_mul _ _ _ (h.byte _ _) hs (hF _ _) p3
      · rw [if_neg e1, if_neg e1, if_neg e1]
        by_cases e2 : x = j
        · rw [if_pos e2, if_pos e2, if_pos e2]
        · rw [if_neg e2, if_neg e2, if_neg e2]
  · obtain ⟨G, hG, hGW⟩ := h.forth
    refine ⟨fun r x => if r = i then Gf.mul (G j x) (Gf.inv (W j i)) else if r = j then G i x else G r x, fun r x => ?_, fun r c hr hc => ?_⟩
    · dsimp only
      split
      · exact Gf.mul_lt _ _
      · split
        · exact hG _ _
        · exact hG _ _
    · dsimp only [brought]
      by_cases e1 : r = i
      · rw [if_pos e1, ← hGW j c p2 hc]
        unfold prodTo
        rw [xsum_mul]
        refine xsum_congr (fun x _ => ?_)
        dsimp only
        rw [if_pos e1]
        exact (Gf.mul_assoc _ _ _ (wide_lt h.abyte n x c) (hG _ _) (Gf.inv_lt _ hs)).symm
      · rw [if_neg e1]
        by_cases e2 : r = j
        · rw [if_pos e2, ← hGW i c hi hc]
          exact xsum_congr (fun x _ => by dsimp only; rw [if_neg e1, if_pos e2])
        · rw [if_neg e2, ← hGW r c hr hc]
          exact xsum_congr (fun x _ => by dsimp only; rw [if_neg e1, if_neg e2])
  · unfold brought
    rw [if_pos rfl, h.unit j c p2 hc, if_neg (by omega), Gf.zero_mul]
  · unfold brought
    rw [if_pos rfl]
    exact Gf.mul_inv _ hs p3

theorem cleared_all {W : Nat → Nat → Nat} {i : Nat} (h0 : ∀ c, c < i → W i c = 0) (r c : Nat) : cleared W i r c = if r = i then W i c else W r c ^^^ Gf.mul (W i c) (W r i) := by
  unfold cleared
  by_cases e : r = i
  · rw [if_pos e, if_pos e]
  · rw [if_neg e, if_neg e]
    by_cases h : i ≤ c
    · rw [if_pos h]
    · rw [if_neg h, h0 c (by omega), Gf.zero_mul, Nat.xor_zero]

theorem keeps_cleared {A : Nat → Nat → Nat} {n i : Nat} {W : Nat → Nat → Nat} (h : Keeps A n i W) (hi : i < n) (h0 : ∀ c, c < i → W i c = 0) (h1 : W i i = 1) : Keeps A n (i + 1) (cleared W i) := by
  refine ⟨h.abyte, cleared_lt h.byte i, fun r c hr hc => ?_, ?_, ?_⟩
  · rw [cleared_all h0]
    by_cases e : r = i
    · rw [if_pos e]
      by_cases hc' : c = i
      · subst hc'; rw [h1, if_pos e]
      · rw [h0 c (by omega), if_neg (by omega)]
    · rw [if_neg e]
      by_cases hc' : c = i
      · subst hc'
        rw [h1, Gf.one_mul _ (h.byte _ _), Nat.xor_self, if_neg e]
      · rw [h0 c (by omega), Gf.zero_mul, Nat.xor_zero, h.unit r c hr (by omega)]
  · obtain ⟨F, hF, hFW⟩ := h.back
    refine ⟨fun r x => if x = i then F r i ^^^ (xsum (fun y => if y = i then 0 else Gf.mul (W y i) (F r y)) n) else F r x, fun r x => ?_, fun r c hr hc => ?_⟩
    · dsimp only
      split
      · exact xor8 (hF _ _) (xsum_lt (fun y => by split; · omega
                                                  · exact Gf.mul_lt _ _) n)
      · exact hF _ _
    · rw [← hFW r c hr hc]
      unfold prodTo
      have e1 : xsum (fun x => Gf.mul (cleared W i x c) (if x = i then F r i ^^^ (xsum (fun y => if y = i then 0 else Gf.mul (W y i) (F r y)) n) else F r x)) n
          = xsum (fun x => Gf.mul (W x c) (F r x) ^^^ (if x = i then Gf.mul (W i c) (xsum (fun y => if y = i then 0 else Gf.mul (W y i) (F r y)) n) else Gf.mul (W i c) (Gf.mul (W x i) (F r x)))) n := by
        refine xsum_congr (fun x _ => ?_)
        rw [cleared_all h0]
        by_cases e : x = i
        · subst e
          rw [if_pos rfl, if_pos rfl, if_pos rfl, Gf.mul_xor_right]
        · rw [if_neg e, if_neg e, if_neg e, Gf.mul_xor_left, Gf.mul_assoc _ _ _ (h.byte _ _) (h.byte _ _) (hF _ _)]
      rw [e1, xsum_xor]
      have e2 : xsum (fun x => if x = i then Gf.mul (W i c) (xsum (fun y => if y = i then 0 else Gf.mul (W y i) (F r y)) n) else Gf.mul (W i c) (Gf.mul (W x i) (F r x))) n = 0 := by
        rw [mul_xsum, xsum_update (fun x => Gf.mul (W i c) (Gf.mul (W x i) (F r x))) i _ n hi]
        have e3 : xsum (fun x => Gf.mul (W i c) (if x = i then 0 else Gf.mul (W x i) (F r x))) n = xsum (fun x => if x = i then 0 else Gf.mul (W i c) (Gf.mul (W x i) (F r x))) n :=
          xsum_congr (fun x _ => by split; · exact Gf.mul_zero _
                                    · rfl)
        rw [e3, xsum_update (fun x => Gf.mul (W i c) (Gf.mul (W x i) (F r x))) i 0 n hi, Nat.xor_zero, Nat.xor_self]
      rw [e2, Nat.xor_zero]
  · obtain ⟨G, hG, hGW⟩ := h.forth
    refine ⟨fun r x => if r = i then G i x else G r x ^^^ Gf.mul (G i x) (W r i), fun r x => ?_, fun r c hr hc => ?_⟩
    · dsimp only
      split
      · exact hG _ _
      · exact xor8 (hG _ _) (Gf.mul_lt _ _)
    · rw [cleared_all h0]
      by_cases e : r = i
      · rw [if_pos e, ← hGW i c hi hc]
        exact xsum_congr (fun x _ => by dsimp only; rw [if_pos e])
      · rw [if_neg e, ← hGW r c hr hc, ← hGW i c hi hc]
        unfold prodTo
        rw [xsum_mul, ← xsum_xor]
        refine xsum_congr (fun x _ => ?_)
        dsimp only
        rw [if_neg e, Gf.mul_xor_right, Gf.mul_assoc _ _ _ (wide_lt h.abyte n x c) (hG _ _) (h.byte _ _)]

theorem El.keeps {A : Nat → Nat → Nat} {n : Nat} (hA : ∀ i j, A i j < 256) {i : Nat} {W : Nat → Nat → Nat} (h : El A n i W) : Keeps A n i W := by
  induction h with
  | start => exact keeps_start hA n
  | step _ hi p ih =>
    obtain ⟨k, h0, h1⟩ := keeps_brought ih hi p
    exact keeps_cleared k hi h0 h1

/-- the right half -/
def right (W : Nat → Nat → Nat) (n : Nat) : Nat → Nat → Nat := fun r c => W r (n + c)
theorem wide_left (A : Nat → Nat → Nat) {n c : Nat} (r : Nat) (h : c < n) : wide A n r c = A r c := if_pos h
theorem wide_right (A : Nat → Nat → Nat) (n : Nat) {r : Nat} (c : Nat) (hr : r < n) : wide A n r (n + c) = ones n r c := by
  unfold wide ones
  rw [if_neg (by omega)]
  by_cases e : c = r
  · rw [if_pos (by omega), if_pos ⟨hr, e.symm⟩]
  · rw [if_neg (by omega), if_neg (by omega)]

/-- where all columns are done, the right half is an inverse from both sides -/
theorem El.inverse {A : Nat → Nat → Nat} {n : Nat} (hA : ∀ i j, A i j < 256) {W : Nat → Nat → Nat} (h : El A n n W) :
    (∀ r c, r < n → c < n → prodTo A (right W n) n r c = ones n r c) ∧ (∀ r c, r < n → c < n → prodTo (right W n) A n r c = ones n r c) := by
  have k := h.keeps hA
  obtain ⟨F, hF, hFW⟩ := k.back
  obtain ⟨G, hG, hGW⟩ := k.forth
  have hFA : ∀ r c, r < n → c < n → F r c = A r c := fun r c hr hc => by
    have := hFW r c hr (by omega)
    rw [wide_left A r hc] at this
    rw [← this]
    unfold prodTo
    rw [xsum_congr (g := fun x => Gf.mul (ones n x c) (F r x)) (fun x hx => by rw [k.unit x c hx hc]; unfold ones; by_cases e : x = c <;> simp [e, hx, hc])]
    exact (prod_ones F hF n r c hc).symm
  have hGE : ∀ r c, r < n → c < n → G r c = right W n r c := fun r c hr hc => by
    have := hGW r (n + c) hr (by omega)
    unfold right
    rw [← this]
    unfold prodTo
    rw [xsum_congr (g := fun x => Gf.mul (ones n x c) (G r x)) (fun x hx => by rw [wide_right A n c hx])]
    exact (prod_ones G hG n r c hc).symm
  refine ⟨fun r c hr hc => ?_, fun r c hr hc => ?_⟩
  · have := hFW r (n + c) hr (by omega)
    rw [wide_right A n c hr] at this
    rw [← this]
    unfold prodTo right
    exact xsum_congr (fun x hx => by rw [hFA r x hr hx])
  · have := hGW r c hr (by omega)
    rw [k.unit r c hr hc] at this
    rw [← prodTo_congr (a := G) (b := wide A n) (fun x hx => hGE r x hr hx) (fun x _ => wide_left A x hc), this]
    unfold ones
    by_cases e : r = c <;> simp [e, hc]

/-- the vector that is turned into noughts -/
def kv (W : Nat → Nat → Nat) (i : Nat) : Nat → Nat := fun c => if c = i then 1 else if c < i then W c i else 0
theorem kv_lt {W : Nat → Nat → Nat} (h : ∀ r c, W r c < 256) (i c : Nat) : kv W i c < 256 := by
  unfold kv; split
  · omega
  · split
    · exact h _ _
    · omega
theorem kv_self (W : Nat → Nat → Nat) (i : Nat) : kv W i i = 1 := if_pos rfl
theorem kv_low (W : Nat → Nat → Nat) {i c : Nat} (h : c < i) : kv W i c = W c i := by unfold kv; rw [if_neg (by omega), if_pos h]
theorem kv_high (W : Nat → Nat → Nat) {i c : Nat} (h : i < c) : kv W i c = 0 := by unfold kv; rw [if_neg (by omega), if_neg (by omega)]
theorem kv_rows {A : Nat → Nat → Nat} {n i : Nat} {W : Nat → Nat → Nat} (k : Keeps A n i W) (hi : i < n) (hn : NoPiv W n i) (x : Nat) (hx : x < n) : xsum (fun c => Gf.mul (kv W i c) (W x c)) n = 0 := by
  by_cases hxi : x < i
  · have e : ∀ c, c < n → Gf.mul (kv W i c) (W x c) = if c = i then W x i else if c = x then W x i else 0 := fun c hc => by
      by_cases e1 : c = i
      · rw [if_pos e1, e1, kv_self, Gf.one_mul _ (k.byte _ _)]
      · rw [if_neg e1]
        by_cases e2 : c < i
        · rw [kv_low W e2, k.unit x c hx e2]
          by_cases e3 : c = x
          · rw [if_pos e3.symm, if_pos e3, Gf.mul_one _ (k.byte _ _), e3]
          · rw [if_neg (fun e => e3 e.symm), if_neg e3, Gf.mul_zero]
        · rw [kv_high W (by omega), Gf.zero_mul, if_neg (by omega)]
    rw [xsum_congr e, xsum_update (fun c => if c = x then W x i else 0) i (W x i) n hi, if_neg (by omega), Nat.xor_zero,
      xsum_update (fun _ => 0) x (W x i) n hx, xsum_zero, Nat.zero_xor, Nat.zero_xor, Nat.xor_self]
  · rw [xsum_congr (g := fun _ => 0) (fun c hc => ?_), xsum_zero]
    by_cases e1 : c = i
    · rw [e1, hn x (by omega) hx, Gf.mul_zero]
    · by_cases e2 : c < i
      · rw [k.unit x c hx e2, if_neg (by omega), Gf.mul_zero]
      · rw [kv_high W (by omega), Gf.zero_mul]

/-- where no pivot is found, there is a vector that the matrix turns into noughts -/
theorem El.kernel {A : Nat → Nat → Nat} {n i : Nat} (hA : ∀ i j, A i j < 256) {W : Nat → Nat → Nat} (h : El A n i W) (hi : i < n) (hn : NoPiv W n i) :
    ∃ v : Nat → Nat, (∀ c, v c < 256) ∧ v i = 1 ∧ ∀ r, r < n → prodTo A (fun x _ => v x) n r 0 = 0 := by
  have k := h.keeps hA
  obtain ⟨F, hF, hFW⟩ := k.back
  refine ⟨kv W i, kv_lt k.byte i, kv_self W i, fun r hr => ?_⟩
  have h1 : prodTo A (fun x _ => kv W i x) n r 0 = prodTo (fun r c => prodTo F W n r c) (fun x _ => kv W i x) n r 0 :=
    prodTo_congr (fun x hx => by rw [hFW r x hr (by omega), wide_left A r hx]) (fun _ _ => rfl)
  rw [h1, prod_assoc F W _ hF k.byte (fun x _ => kv_lt k.byte i x) n n r 0]
  have h2 : ∀ x, x < n → Gf.mul (prodTo W (fun x _ => kv W i x) n x 0) (F r x) = 0 := fun x hx => by
    have := kv_rows k hi hn x hx
    unfold prodTo
    rw [this, Gf.zero_mul]
  show xsum (fun x => Gf.mul (prodTo W (fun x _ => kv W i x) n x 0) (F r x)) n = 0
  rw [xsum_congr (g := fun _ => 0) h2, xsum_zero]

/-- a matrix that has an inverse from the left turns no vector into noughts but noughts: elimination does not fail -/
theorem no_fail {A B : Nat → Nat → Nat} {n i : Nat} (hA : ∀ i j, A i j < 256) (hB : ∀ i j, B i j < 256) (hBA : ∀ r c, r < n → c < n → prodTo B A n r c = ones n r c) {W : Nat → Nat → Nat} (h : El A n i W) (hi : i < n) : ¬ NoPiv W n i := fun hn => by
  obtain ⟨v, hv, h1, h0⟩ := h.kernel hA hi hn
  have e := prod_assoc B A (fun x _ => v x) hB hA (fun x _ => hv x) n n i 0
  rw [prodTo_congr (a' := ones n) (b' := fun x _ => v x) (fun x hx => hBA i x hi hx) (fun _ _ => rfl), ones_prod (fun x _ => v x) (fun x _ => hv x) n i 0 hi] at e
  have e0 : prodTo B (fun i k => prodTo A (fun x _ => v x) n i k) n i 0 = 0 := by
    show xsum (fun x => Gf.mul (prodTo A (fun x _ => v x) n x 0) (B i x)) n = 0
    rw [xsum_congr (g := fun _ => 0) (fun x hx => by rw [h0 x hx, Gf.zero_mul]), xsum_zero]
  rw [e0, h1] at e
  omega
end Go.Proofs.YtmncocmeafcpfaaDoor.Mf
