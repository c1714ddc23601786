/- Texts of this proof, joined: Zc, Fc, Fs, Mz. -/
import Derived.Test.YtmncocmeafcpfaaDoorMgAL
import Derived.Laws.BitsAllLaws
import Derived.Test.YtmncocmeafcpfaaDoorMgAI
/- Calls of clients in memory; a delete, from its beginning to its end. -/
namespace Go.Proofs.YtmncocmeafcpfaaDoor
set_option linter.unusedVariables false
set_option linter.unusedSimpArgs false
open Go.RowKit Go.Deep

/-- a call, cell by cell -/
abbrev callA (self aid now : Int) (c : Cs0) (nv : Value) (dn : Bool) (wh st ft : Value) : List Value :=
  [.int .i64 self, .int .i64 aid, .int .i64 now, .int .i64 c.id, .int .i64 c.kind, .string c.key, .int .i64 c.blob, .int .i64 c.other, .int .i64 c.index, .int .i64 c.node, .int .i64 c.size, .int .u32 c.sum, .int .i64 c.k, .int .i64 c.m, nv, .bool dn, wh, st, ft]
theorem szCall : (Tryd.prog.info? 106).map (·.size) = some 19 := by kernel_rfl

set_option maxRecDepth 100000 in
set_option maxHeartbeats 400000 in
theorem cmade (b : Nat) (i : Int) (w : World) (hc : w.cell? ⟨b, 3, none⟩ = some (.int .i64 i)) (hi : 0 < i) : Calls Tryd.prog 71 #[.pointer (some ⟨b, 0, none⟩)] w fun e w' => e = .returned (.bool true) ∧ w' = w := by
  go_enter Tryd.func71, Tryd.ntmps71
  go_wp2
  go_ret
  exact ⟨by simp [hi], rfl⟩

set_option maxRecDepth 100000 in
set_option maxHeartbeats 400000 in
theorem copen (b : Nat) (i : Int) (dn : Bool) (w : World) (hc : w.cell? ⟨b, 3, none⟩ = some (.int .i64 i)) (hi : 0 < i) (hd : w.cell? ⟨b, 15, none⟩ = some (.bool dn)) : Calls Tryd.prog 75 #[.pointer (some ⟨b, 0, none⟩)] w fun e w' => e = .returned (.bool (!dn)) ∧ w' = w := by
  have H : Hid (Calls _ _ _ w _) := cmade b i w hc hi
  clear hc hi
  go_enter Tryd.func75, Tryd.ntmps75
  go_wp2_with (go_at_call 71; refine H.out.mono ?_; rintro e w1 ⟨rfl, hw1⟩; subst hw1)
  go_ret
  exact ⟨rfl, rfl⟩

set_option maxRecDepth 100000 in
set_option maxHeartbeats 400000 in
theorem cdone (b : Nat) (i : Int) (dn : Bool) (w : World) (hc : w.cell? ⟨b, 3, none⟩ = some (.int .i64 i)) (hi : 0 < i) (hd : w.cell? ⟨b, 15, none⟩ = some (.bool dn)) : Calls Tryd.prog 40 #[.pointer (some ⟨b, 0, none⟩)] w fun e w' => e = .returned (.bool dn) ∧ w' = w := by
  have H : Hid (Calls _ _ _ w _) := cmade b i w hc hi
  clear hc hi
  go_enter Tryd.func40, Tryd.ntmps40
  go_wp2_with (go_at_call 71; refine H.out.mono ?_; rintro e w1 ⟨rfl, hw1⟩; subst hw1)
  go_ret
  exact ⟨rfl, rfl⟩

set_option maxRecDepth 100000 in
set_option maxHeartbeats 400000 in
theorem placed_no (b o : Nat) (w : World) (hc : w.cell? ⟨b, o + 1, none⟩ = some (.pointer none)) : Calls Tryd.prog 72 #[.pointer (some ⟨b, o, none⟩)] w fun e w' => e = .returned (.bool false) ∧ w' = w := by
  go_enter Tryd.func72, Tryd.ntmps72
  go_wp2
  go_ret
  exact ⟨rfl, rfl⟩
set_option maxRecDepth 100000 in
set_option maxHeartbeats 400000 in
theorem placed_yes (b o p : Nat) (w : World) (hc : w.cell? ⟨b, o + 1, none⟩ = some (.pointer (some ⟨p, 0, none⟩))) : Calls Tryd.prog 72 #[.pointer (some ⟨b, o, none⟩)] w fun e w' => e = .returned (.bool true) ∧ w' = w := by
  go_enter Tryd.func72, Tryd.ntmps72
  go_wp2
  go_ret
  exact ⟨rfl, rfl⟩
set_option maxRecDepth 100000 in
set_option maxHeartbeats 400000 in
theorem known_no (b o : Nat) (w : World) (hc : w.cell? ⟨b, o, none⟩ = some (.pointer none)) : Calls Tryd.prog 77 #[.pointer (some ⟨b, o, none⟩)] w fun e w' => e = .returned (.bool false) ∧ w' = w := by
  go_enter Tryd.func77, Tryd.ntmps77
  go_wp2
  go_ret
  exact ⟨rfl, rfl⟩

set_option maxRecDepth 100000 in
set_option maxHeartbeats 400000 in
theorem slot_done (b : Nat) (i : Int) (w : World) (hc : w.cell? ⟨b, 3, none⟩ = some (.int .i64 i)) (hi : 0 < i) (hd : w.cell? ⟨b, 15, none⟩ = some (.bool true)) : Calls Tryd.prog 79 #[.pointer (some ⟨b, 0, none⟩)] w fun e w' => e = .returned (.bool false) ∧ w' = w := by
  have H : Hid (Calls Tryd.prog 75 #[.pointer (some ⟨b, 0, none⟩)] w fun e w' => e = .returned (.bool false) ∧ w' = w) := copen b i true w hc hi hd
  clear hc hi hd
  go_enter Tryd.func79, Tryd.ntmps79
  go_wp2_with (go_at_call 75; refine H.out.mono ?_; rintro e w1 ⟨rfl, hw1⟩; subst hw1)
  go_ret
  exact ⟨rfl, rfl⟩

set_option maxRecDepth 100000 in
set_option maxHeartbeats 400000 in
theorem slot_yes (b : Nat) (i k : Int) (w : World) (hc : w.cell? ⟨b, 3, none⟩ = some (.int .i64 i)) (hi : 0 < i) (hd : w.cell? ⟨b, 15, none⟩ = some (.bool false)) (hf : w.cell? ⟨b, 18, none⟩ = some (.pointer none)) (hk : w.cell? ⟨b, 4, none⟩ = some (.int .i64 k)) (hk1 : k ≠ 1) : Calls Tryd.prog 79 #[.pointer (some ⟨b, 0, none⟩)] w fun e w' => e = .returned (.bool true) ∧ w' = w := by
  have H : Hid (Calls Tryd.prog 75 #[.pointer (some ⟨b, 0, none⟩)] w fun e w' => e = .returned (.bool true) ∧ w' = w) := copen b i false w hc hi hd
  have H2 : Hid (Calls _ _ _ w _) := known_no b 18 w hf
  have hk2 : (k != 1) = true := by simpa using hk1
  clear hc hi hd hf
  go_enter Tryd.func79, Tryd.ntmps79
  go_wp2_with (first
    | (go_at_call 75; refine H.out.mono ?_; rintro e w1 ⟨rfl, hw1⟩; subst hw1)
    | (go_at_call 77; refine H2.out.mono ?_; rintro e w1 ⟨rfl, hw1⟩; subst hw1))
  go_ret
  exact ⟨rfl, rfl⟩

set_option maxRecDepth 100000 in
set_option maxHeartbeats 1600000 in
theorem tell_ok {w : World} {c : Nat} {self aid now : Int} {cm : Cs0} {nv : Value} {dn : Bool} {wh st ft : Value} (h : Lv w c (callA self aid now cm nv dn wh st ft)) (says : Int) (bp : Option Addr) (bn bc : Nat) :
    Calls Tryd.prog 81 #[.pointer (some ⟨c, 0, none⟩), .int .i64 says, .slice bp bn bc] w fun e w' => ∃ g, e = .returned (.slice (some ⟨g, 0, none⟩) 1 1) ∧ w.heap.size ≤ g ∧ Kp (fun b => b = c) w w' ∧ Lv w' c (callA self aid now cm nv true (.slice none 0 0) (.pointer none) (.pointer none)) ∧ Lv w' g [.int .i64 aid, .int .i64 says, .slice bp bn bc] := by
  have HL : Hid (Lv w c (callA self aid now cm nv dn wh st ft)) := h
  have c1 := h.cell (j := 1) rfl
  have c15 := h.cell (j := 15) rfl
  have c16 := h.cell (j := 16) rfl
  have c17 := h.cell (j := 17) rfl
  have c18 := h.cell (j := 18) rfl
  have f15 := h.fz (j := 15) (show 15 < 19 by omega)
  have f16 := h.fz (j := 16) (show 16 < 19 by omega)
  have f17 := h.fz (j := 17) (show 17 < 19 by omega)
  have f18 := h.fz (j := 18) (show 18 < 19 by omega)
  clear h
  go_enter Tryd.func81, Tryd.ntmps81
  go_wp2
  go_ret
  have l1 : Lv _ c (callA self aid now cm nv true wh st ft) := HL.out.set1 15 (.bool true) (show 15 < 19 by omega)
  have l2 : Lv _ c (callA self aid now cm nv true (.slice none 0 0) st ft) := l1.set1 16 (.slice none 0 0) (show 16 < 19 by omega)
  have l3 : Lv _ c (callA self aid now cm nv true (.slice none 0 0) (.pointer none) ft) := l2.set1 17 (.pointer none) (show 17 < 19 by omega)
  have l4 : Lv _ c (callA self aid now cm nv true (.slice none 0 0) (.pointer none) (.pointer none)) := l3.set1 18 (.pointer none) (show 18 < 19 by omega)
  have k4 : Kp (fun b => b = c) w ((((w.setCell ⟨c, 15, none⟩ (.bool true)).setCell ⟨c, 16, none⟩ (.slice none 0 0)).setCell ⟨c, 17, none⟩ (.pointer none)).setCell ⟨c, 18, none⟩ (.pointer none)) := ((((Kp.refl (fun b => b = c) w).setCell (fun _ => rfl) _).setCell (fun _ => rfl) _).setCell (fun _ => rfl) _).setCell (fun _ => rfl) _
  obtain ⟨u, hu⟩ : ∃ x, x = ((((w.setCell ⟨c, 15, none⟩ (.bool true)).setCell ⟨c, 16, none⟩ (.slice none 0 0)).setCell ⟨c, 17, none⟩ (.pointer none)).setCell ⟨c, 18, none⟩ (.pointer none)) := ⟨_, rfl⟩
  have hs : u.heap.size = w.heap.size := by rw [hu]; simp
  rw [← hu] at k4 l4 ⊢
  refine ⟨w.heap.size, rfl, Nat.le_refl _, k4.alloc _, l4.keep ((Kp.refl (fun _ => False) u).alloc _) id, ?_⟩
  rw [← hs]
  exact Lv.new u _ _

set_option maxRecDepth 100000 in
set_option maxHeartbeats 1600000 in
theorem says_done (c : Nat) (k : Int) (w : World) (hk : w.cell? ⟨c, 4, none⟩ = some (.int .i64 k)) (h2 : k ≠ 2) : Calls Tryd.prog 82 #[.pointer (some ⟨c, 0, none⟩), .int .i64 1] w fun e w' => e = .returned (.int .i64 1) ∧ Kp (fun _ => False) w w' := by
  have h2' : (k == 2) = false := by simpa using h2
  go_enter Tryd.func82, Tryd.ntmps82
  go_wp2
  go_quiet (fail)
  go_wp2
  go_ret
  exact ⟨rfl, (Kp.refl _ _).drewN _⟩

abbrev outDone : Value := .agg #[.int .i64 1, .int .i64 0, .int .i64 0, .int .u32 0, .int .i64 0, .int .i64 0, .slice none 0 0, .int .i64 0]
set_option maxRecDepth 100000 in
set_option maxHeartbeats 1600000 in
theorem applied_del {w : World} {c : Nat} {self aid now : Int} {cm : Cs0} {nv : Value} {wh st : Value} (h : Lv w c (callA self aid now cm nv false wh st (.pointer none))) (hi : 0 < cm.id) (hk : cm.kind = 3) :
    Calls Tryd.prog 37 #[.pointer (some ⟨c, 0, none⟩), outDone, .int .i64 1] w fun e w' => ∃ g, e = .returned (.slice (some ⟨g, 0, none⟩) 1 1) ∧ w.heap.size ≤ g ∧ Kp (fun b => b = c) w w' ∧ Lv w' c (callA self aid now cm nv true (.slice none 0 0) (.pointer none) (.pointer none)) ∧ Lv w' g [.int .i64 aid, .int .i64 1, .slice none 0 0] := by
  have HS : Hid (∀ u, Kp (fun _ => False) w u → Calls _ _ _ u _) := fun u k => slot_yes c cm.id cm.kind u ((h.keep k id).cell (j := 3) rfl) hi ((h.keep k id).cell (j := 15) rfl) ((h.keep k id).cell (j := 18) rfl) ((h.keep k id).cell (j := 4) rfl) (by omega)
  have HSa : Hid (∀ u, Kp (fun _ => False) w u → Calls _ _ _ u _) := fun u k => says_done c cm.kind u ((h.keep k id).cell (j := 4) rfl) (by omega)
  have HT : Hid (∀ u, Kp (fun _ => False) w u → Calls _ _ _ u _) := fun u k => tell_ok (h.keep k id) 1 none 0 0
  have c4 : (w.alloc (.cells #[.int .i64 1, .int .i64 0, .int .i64 0, .int .u32 0, .int .i64 0, .int .i64 0, .slice none 0 0, .int .i64 0] 87)).cell? ⟨c, 4, none⟩ = some (.int .i64 3) := by
    have := (h.keep ((Kp.refl (fun _ => False) w).alloc (.cells #[.int .i64 1, .int .i64 0, .int .i64 0, .int .u32 0, .int .i64 0, .int .i64 0, .slice none 0 0, .int .i64 0] 87)) id).cell (j := 4) rfl
    rw [hk] at this
    exact this
  have k0 : Kp (fun _ => False) w (w.alloc (.cells #[.int .i64 1, .int .i64 0, .int .i64 0, .int .u32 0, .int .i64 0, .int .i64 0, .slice none 0 0, .int .i64 0] 87)) := (Kp.refl _ _).alloc _
  have lo : Lv (w.alloc (.cells #[.int .i64 1, .int .i64 0, .int .i64 0, .int .u32 0, .int .i64 0, .int .i64 0, .slice none 0 0, .int .i64 0] 87)) w.heap.size [.int .i64 1, .int .i64 0, .int .i64 0, .int .u32 0, .int .i64 0, .int .i64 0, .slice none 0 0, .int .i64 0] := Lv.new w _ _
  have o0 := lo.cell (j := 0) rfl
  have HLo : Hid (Lv (w.alloc (.cells #[.int .i64 1, .int .i64 0, .int .i64 0, .int .u32 0, .int .i64 0, .int .i64 0, .slice none 0 0, .int .i64 0] 87)) w.heap.size [.int .i64 1, .int .i64 0, .int .i64 0, .int .u32 0, .int .i64 0, .int .i64 0, .slice none 0 0, .int .i64 0]) := lo
  obtain ⟨W0, hW0⟩ : ∃ x, x = w.alloc (.cells #[.int .i64 1, .int .i64 0, .int .i64 0, .int .u32 0, .int .i64 0, .int .i64 0, .slice none 0 0, .int .i64 0] 87) := ⟨_, rfl⟩
  have e0 : w.alloc (.cells #[.int .i64 1, .int .i64 0, .int .i64 0, .int .u32 0, .int .i64 0, .int .i64 0, .slice none 0 0, .int .i64 0] 87) = W0 := hW0.symm
  rw [e0] at c4 k0 o0 HLo
  clear h lo hk hW0
  go_enter Tryd.func37, Tryd.ntmps37
  go_wp2_with fail
  try rw [e0]
  clear e0
  refine (HS.out _ k0).mono ?_
  rintro e w1 ⟨rfl, hw1⟩
  obtain rfl := hw1.symm
  clear hw1
  go_wp2
  go_quiet (fail)
  go_wp2_with (first
    | (go_at_call 82; refine (HSa.out _ (by exact k0.drewN _)).mono ?_; rintro e w2 ⟨rfl, k2⟩; have kd2 : Kp (fun _ => False) w w2 := (k0.drewN _).trans k2 (fun _ _ e => e))
    | (go_at_call 81; refine (HT.out _ kd2).mono ?_; rintro e w3 ⟨g, rfl, hg, k3, l3, lg⟩))
  go_ret
  refine ⟨g, rfl, ?_, (kd2.mono (fun _ _ e => e.elim)).trans k3 (fun _ _ e => e), l3, lg⟩
  have := kd2.size
  omega

set_option maxRecDepth 100000 in
set_option maxHeartbeats 1600000 in
theorem told_same (aid says : Int) (p1 p2 : Option Addr) (n1 n2 c1 c2 : Nat) (xs : List Nat) (w : World) (h1 : Rb w p1 n1 xs) (h2 : Rb w p2 n2 xs) :
    Calls Tryd.prog 85 #[.agg #[.int .i64 aid, .int .i64 says, .slice p1 n1 c1], .agg #[.int .i64 aid, .int .i64 says, .slice p2 n2 c2]] w fun e w' => e = .returned (.bool true) ∧ Kp (fun _ => False) w w' := by
  have HB : Hid (∀ u, Kp (fun _ => False) w u → Calls _ _ _ u _) := fun u k => bytes_same p1 p2 n1 n2 c1 c2 xs u (h1.keep0 k) (h2.keep0 k)
  clear h1 h2
  have k0 : Kp (fun _ => False) w ((w.alloc (.cells #[.int .i64 aid, .int .i64 says, .slice p1 n1 c1] 96)).alloc (.cells #[.int .i64 aid, .int .i64 says, .slice p2 n2 c2] 96)) := ((Kp.refl _ _).alloc _).alloc _
  go_enter Tryd.func85, Tryd.ntmps85
  go_wp2_with (go_at_call 18; refine (HB.out _ k0).mono ?_; rintro e w1 ⟨rfl, hw1⟩; subst hw1)
  go_ret
  exact ⟨rfl, k0⟩

abbrev toldA (aid says : Int) (p : Option Addr) (n c : Nat) : List Value := [.int .i64 aid, .int .i64 says, .slice p n c]
theorem szTold : (Tryd.prog.info? 96).map (·.size) = some 3 := by kernel_rfl
theorem dsTold : ∃ d, Tryd.prog.underlying 96 = some d ∧ d.isRow = true := ⟨_, Tryd.underlying96, rfl⟩
theorem told_one (aid says : Int) (p : Option Addr) (n c : Nat) : (toldA aid says p n c).toArray.all (·.oneCell') = true := all_oneCell_toArray (fun x hx => by
  simp only [List.mem_cons, List.not_mem_nil, or_false] at hx
  rcases hx with rfl | rfl | rfl <;> rfl)
set_option maxRecDepth 100000 in
set_option maxHeartbeats 1600000 in
theorem eqf_told1 (aid says : Int) (p1 p2 : Option Addr) (n1 n2 d1 d2 : Nat) (xs : List Nat) (g1 g2 c1 c2 : Nat) (w : World) (h1 : Lv w g1 (toldA aid says p1 n1 d1)) (h2 : Lv w g2 (toldA aid says p2 n2 d2)) (r1 : Rb w p1 n1 xs) (r2 : Rb w p2 n2 xs) :
    Calls Tryd.prog 84 #[.slice (some ⟨g1, 0, none⟩) 1 c1, .slice (some ⟨g2, 0, none⟩) 1 c2, .func (.func 85) #[] #[]] w fun e w' => e = .returned (.bool true) ∧ Kp (fun _ => False) w w' := by
  have HSv : Hid (∀ u, Kp (fun _ => False) w u → Calls _ _ _ u _) := fun u k => told_same aid says p1 p2 n1 n2 d1 d2 xs u (r1.keep0 k) (r2.keep0 k)
  have HR1 : Hid (Lv w g1 (toldA aid says p1 n1 d1)) := h1
  have HR2 : Hid (∀ u, Kp (fun _ => False) w u → Lv u g2 (toldA aid says p2 n2 d2)) := fun u k => h2.keep k id
  have HO1 : Hid ((toldA aid says p1 n1 d1).toArray.all (·.oneCell') = true) := told_one _ _ _ _ _
  have HO2 : Hid ((toldA aid says p2 n2 d2).toArray.all (·.oneCell') = true) := told_one _ _ _ _ _
  clear h1 h2 r1 r2
  go_enter Tryd.func84, Tryd.ntmps84
  go_wp2
  go_loopg [17] 1 (fun gk i wr => ∃ k : Nat, k ≤ 1 ∧ gk = 1 - k ∧ i = .int .i64 k ∧ (k = 0 → wr = w) ∧ Kp (fun _ => False) w wr)
  case atStart => exact ⟨0, by omega, rfl, rfl, fun _ => rfl, Kp.refl _ _⟩
  case round =>
    obtain ⟨k, hk, rfl, rfl, h0, hK⟩ := hrel
    by_cases hk0 : k = 0
    · subst hk0
      obtain rfl := h0 rfl
      clear h0 hK
      go_wp2_with (first
        | (refine wpList_load_all rfl 96 _ rfl 3 g1 (toldA aid says p1 n1 d1) rfl HR1.out dsTold szTold rfl ?_)
        | (refine wpList_store_all rfl 96 _ _ rfl 3 wr.heap.size [.int .i64 0, .int .i64 0, .slice none 0 0] (toldA aid says p1 n1 d1) rfl rfl (by exact Lv.new wr _ _) szTold rfl rfl HO1.out ?_; intro u2 hl2 k2; have ku2 : Kp (fun _ => False) wr u2 := ((Kp.refl (fun _ => False) wr).alloc _).trans k2 (fun b hb e => by omega); have HR2' : Hid (Lv u2 g2 (toldA aid says p2 n2 d2)) := HR2.out u2 ku2; have HL2 : Hid (Lv u2 wr.heap.size (toldA aid says p1 n1 d1)) := hl2; clear hl2 k2)
        | (refine wpList_load_all rfl 96 _ rfl 3 g2 (toldA aid says p2 n2 d2) rfl HR2'.out dsTold szTold rfl ?_)
        | (refine wpList_store_all rfl 96 _ _ rfl 3 u2.heap.size [.int .i64 0, .int .i64 0, .slice none 0 0] (toldA aid says p2 n2 d2) rfl rfl (by exact Lv.new u2 _ _) szTold rfl rfl HO2.out ?_; intro u3 hl3 k3; have ku3 : Kp (fun _ => False) u2 u3 := ((Kp.refl (fun _ => False) u2).alloc _).trans k3 (fun b hb e => by omega); have HL3 : Hid (Lv u3 u2.heap.size (toldA aid says p2 n2 d2)) := hl3; have HL2' : Hid (Lv u3 wr.heap.size (toldA aid says p1 n1 d1)) := HL2.out.keep ku3 id; have kw3 := ku2.trans ku3 (fun _ _ e => e); clear hl3 k3)
        | (refine wpList_load_all rfl 96 _ rfl 3 wr.heap.size (toldA aid says p1 n1 d1) rfl HL2'.out dsTold szTold rfl ?_)
        | (refine wpList_load_all rfl 96 _ rfl 3 u2.heap.size (toldA aid says p2 n2 d2) rfl HL3.out dsTold szTold rfl ?_)
        | (go_at_call 85; refine (HSv.out _ kw3).mono ?_; rintro e u4 ⟨rfl, k4⟩))
      go_roundg 0
      case rel => exact ⟨1, by omega, rfl, by go_num, fun h => absurd h (by decide), kw3.trans k4 (fun _ _ e => e)⟩
      case measure => omega
    · obtain rfl : k = 1 := by omega
      go_wp2
      go_ret
      exact ⟨rfl, hK⟩

set_option maxRecDepth 100000 in
set_option maxHeartbeats 800000 in
theorem same_told1 (aid says : Int) (p1 p2 : Option Addr) (n1 n2 d1 d2 : Nat) (xs : List Nat) (g1 g2 c1 c2 : Nat) (w : World) (h1 : Lv w g1 (toldA aid says p1 n1 d1)) (h2 : Lv w g2 (toldA aid says p2 n2 d2)) (r1 : Rb w p1 n1 xs) (r2 : Rb w p2 n2 xs) :
    Calls Tryd.prog 43 #[.slice (some ⟨g1, 0, none⟩) 1 c1, .slice (some ⟨g2, 0, none⟩) 1 c2] w fun e w' => e = .returned (.bool true) ∧ Kp (fun _ => False) w w' := by
  have H : Hid (Calls _ _ _ w _) := eqf_told1 aid says p1 p2 n1 n2 d1 d2 xs g1 g2 c1 c2 w h1 h2 r1 r2
  clear h1 h2 r1 r2
  go_enter Tryd.func43, Tryd.ntmps43
  go_wp2_with (go_at_call 84; refine H.out.mono ?_; rintro e w1 ⟨rfl, k1⟩)
  go_ret
  exact ⟨rfl, k1⟩

set_option maxRecDepth 100000 in
set_option maxHeartbeats 800000 in
theorem may_del (w : World) : Calls Tryd.prog 68 #[.agg #[.int .i64 7, .int .i64 3, .string keyA, .slice none 0 0]] w fun e w' => e = .returned (.bool true) ∧ Kp (fun _ => False) w w' := by
  have H1 : Hid (∀ u, Calls _ _ _ u _) := fun u => cmdOf_del u
  have H2 : Hid (∀ u, Calls _ _ _ u _) := fun u => key_a u
  go_enter Tryd.func68, Tryd.ntmps68
  go_wp2_with (first
    | (go_at_call 69; refine (H1.out _).mono ?_; rintro e w1 ⟨rfl, hw1⟩; subst hw1)
    | (go_at_call 100; refine (H2.out _).mono ?_; rintro e w1 ⟨rfl, hw1⟩; subst hw1))
  go_ret
  exact ⟨rfl, (Kp.refl _ _).alloc _⟩

abbrev cmDel : Cs0 := ⟨5, 3, keyA, 0, 0, 0, 0, 0, 0, 0, 0⟩
abbrev askDel : Array Value := #[.int .i64 7, .int .i64 3, .string keyA, .slice none 0 0]
set_option maxRecDepth 100000 in
set_option maxHeartbeats 1600000 in
theorem new_del (w : World) : Calls Tryd.prog 34 #[.int .i64 1, .agg askDel, .int .i64 5, .int .i64 0] w fun e w' => ∃ c, e = .returned (.tuple #[.pointer (some ⟨c, 0, none⟩), .int .i64 0]) ∧ Kp (fun _ => False) w w' ∧ w.heap.size ≤ c ∧ Lv w' c (callA 1 7 0 cmDel (.slice none 0 0) false (.slice none 0 0) (.pointer none) (.pointer none)) := by
  have H1 : Hid (∀ u, Calls _ _ _ u _) := fun u => isNode_ok 1 u
  have H2 : Hid (∀ u, Calls _ _ _ u _) := fun u => may_del u
  have H3 : Hid (∀ u, Calls _ _ _ u _) := fun u => cmdOf_del u
  have k0 : Kp (fun _ => False) w (w.alloc (.cells askDel 81)) := (Kp.refl _ _).alloc _
  have HL : Hid (Lv (w.alloc (.cells askDel 81)) w.heap.size askDel.toList) := Lv.new w _ _
  go_enter Tryd.func34, Tryd.ntmps34
  go_wp2_with (first
    | (go_at_call 48; refine (H1.out _).mono ?_; rintro e w1 ⟨rfl, hw1⟩; subst hw1)
    | (go_at_call 68; refine (H2.out _).mono ?_; rintro e w1 ⟨rfl, k1⟩))
  have kd : Kp (fun _ => False) (w.alloc (.cells askDel 81)) w1.drew := k1.drew
  have l1 : Lv w1.drew w.heap.size askDel.toList := HL.out.keep kd id
  have ka : Kp (fun _ => False) w1.drew (w1.drew.alloc (.cells #[.int .i64 1, .int .i64 7, .int .i64 0, .int .i64 5, .int .i64 3, .string keyA, .int .i64 0, .int .i64 0, .int .i64 0, .int .i64 0, .int .i64 0, .int .u32 0, .int .i64 0, .int .i64 0, .slice none 0 0, .bool false, .slice none 0 0, .pointer none, .pointer none] 106)) := (Kp.refl _ _).alloc _
  have l2 := l1.keep ka id
  refine cn3_region ⟨by kernel_rfl, by kernel_rfl, by kernel_rfl, by kernel_rfl, by kernel_rfl, by kernel_rfl, by kernel_rfl, by kernel_rfl, by kernel_rfl, by kernel_rfl, by kernel_rfl, by kernel_rfl, by kernel_rfl, by kernel_rfl, by kernel_rfl, by kernel_rfl, by kernel_rfl, by kernel_rfl, by kernel_rfl, by kernel_rfl, by kernel_rfl, by kernel_rfl⟩ w.heap.size 1 7 3 3 5 0 keyA (fun d _ _ _ _ h => by cases d <;> exact h) (by rfl) (by rfl) (by rfl) (by rfl) (by rfl) ⟨l1.cell (j := 0) rfl, l1.cell (j := 1) rfl, l1.cell (j := 2) rfl⟩ ⟨l2.cell (j := 0) rfl, l2.cell (j := 1) rfl, l2.cell (j := 2) rfl⟩ (H3.out _) ?_
  simp only [Act.put, List.setIfInBounds_toArray, List.set_cons_succ, List.set_cons_zero]
  have d1 := l2.cell (j := 1) rfl
  have hl : Lv (w1.drew.alloc (.cells #[.int .i64 1, .int .i64 7, .int .i64 0, .int .i64 5, .int .i64 3, .string keyA, .int .i64 0, .int .i64 0, .int .i64 0, .int .i64 0, .int .i64 0, .int .u32 0, .int .i64 0, .int .i64 0, .slice none 0 0, .bool false, .slice none 0 0, .pointer none, .pointer none] 106)) w1.drew.heap.size (callA 1 7 0 cmDel (.slice none 0 0) false (.slice none 0 0) (.pointer none) (.pointer none)) := Lv.new w1.drew _ _
  have hk := (k0.trans kd (fun _ _ e => e)).trans ka (fun _ _ e => e)
  have hsz := (k0.trans kd (fun _ _ e => e)).size
  obtain ⟨z, hz⟩ : ∃ x, x = (w1.drew.alloc (.cells #[.int .i64 1, .int .i64 7, .int .i64 0, .int .i64 5, .int .i64 3, .string keyA, .int .i64 0, .int .i64 0, .int .i64 0, .int .i64 0, .int .i64 0, .int .u32 0, .int .i64 0, .int .i64 0, .slice none 0 0, .bool false, .slice none 0 0, .pointer none, .pointer none] 106)) := ⟨_, rfl⟩
  rw [← hz] at hl hk d1 ⊢
  have HH : Hid (Lv z w1.drew.heap.size (callA 1 7 0 cmDel (.slice none 0 0) false (.slice none 0 0) (.pointer none) (.pointer none)) ∧ Kp (fun _ => False) w z ∧ w.heap.size ≤ w1.drew.heap.size) := ⟨hl, hk, hsz⟩
  obtain ⟨g, hg⟩ : ∃ g, g = w1.drew.heap.size := ⟨_, rfl⟩
  rw [← hg] at HH ⊢
  clear hg hl hk hsz hz l2 ka l1 kd k1
  go_wp2
  go_ret2
  exact ⟨g, rfl, HH.out.2.1, HH.out.2.2, HH.out.1⟩

set_option maxRecDepth 100000 in
set_option maxHeartbeats 1600000 in
theorem cmd_yes {w : World} {c : Nat} {self aid now : Int} {cm : Cs0} {dn : Bool} {wh st ft : Value} (h : Lv w c (callA self aid now cm (.slice none 0 0) dn wh st ft)) (hs : ∀ u, Kp (fun _ => False) w u → Calls Tryd.prog 79 #[.pointer (some ⟨c, 0, none⟩)] u fun e w' => e = .returned (.bool true) ∧ w' = u) :
    Calls Tryd.prog 39 #[.pointer (some ⟨c, 0, none⟩)] w fun e w' => ∃ q cq, e = .returned (.tuple #[.agg (cmdA cm (.slice q 0 cq)), .bool true]) ∧ Kp (fun _ => False) w w' := by
  have k0 : Kp (fun _ => False) w (w.alloc (.cells zeroC 42)) := (Kp.refl _ _).alloc _
  have H : Hid (Calls Tryd.prog 79 #[.pointer (some ⟨c, 0, none⟩)] (w.alloc (.cells zeroC 42)) fun e w' => e = .returned (.bool true) ∧ w' = (w.alloc (.cells zeroC 42))) := hs _ k0
  have HL : Hid (Lv (w.alloc (.cells zeroC 42)) w.heap.size zeroC.toList) := Lv.new w _ _
  have lc := h.keep k0 id
  have HR : Hid ((w.alloc (.cells zeroC 42)).rangeAt c 3 (cmdA cm (.slice none 0 0)).toList) := fun j u hu => by
    have hj : j < 12 := by have := (List.getElem?_eq_some_iff.1 hu).1; simpa using this
    have := lc.r (3 + j) u (by rw [← hu]; rcases j with _ | _ | _ | _ | _ | _ | _ | _ | _ | _ | _ | _ | j <;> first | rfl | omega)
    rwa [Nat.zero_add] at this
  have HC : Hid (Calls _ _ _ (w.alloc (.cells zeroC 42)) _) := clone_cmd cm (fun _ => True) none 0 [] (w.alloc (.cells zeroC 42)) (fun j u hu => by simp at hu) (show _ ≤ _ by simp)
  obtain ⟨dc, hdc1, hdc2⟩ := dsCmd
  clear h hs lc
  go_enter Tryd.func39, Tryd.ntmps39
  go_wp2_with (first
    | (go_at_call 79; refine H.out.mono ?_; rintro e w1 ⟨rfl, hw1⟩; subst hw1)
    | (refine wpList_load_mid rfl 42 _ rfl c 3 rfl (cmdA cm (.slice none 0 0)).toList dc HR.out hdc1 hdc2 (by rw [szCmd]; rfl) ?_)
    | (go_at_call 83; refine HC.out.mono ?_; rintro e w2 ⟨q, cq, rfl, k2, hfl⟩; have HL2 : Hid (Lv w2 w.heap.size zeroC.toList) := HL.out.keep k2 id; have HO : Hid ((cmdA cm (.slice q 0 cq)).toList.toArray.all (·.oneCell') = true) := cmd_one cm rfl)
    | (refine wpList_store_all rfl 42 _ _ rfl 12 w.heap.size zeroC.toList (cmdA cm (.slice q 0 cq)).toList rfl rfl HL2.out szCmd rfl rfl HO.out ?_; intro w3 hl3 k3))
  refine bodyPost_ret (res_cell_tmp Tryd.results39 _ _ w.heap.size _ rfl (hl3.load ⟨dc, hdc1, hdc2⟩ szCmd rfl)) rfl ?_
  first | exact ⟨⟨q, cq, rfl⟩, (k0.trans k2 (fun _ _ e => e)).trans k3 (fun b hb e => by omega)⟩ | exact ⟨q, cq, rfl, (k0.trans k2 (fun _ _ e => e)).trans k3 (fun b hb e => by omega)⟩
end Go.Proofs.YtmncocmeafcpfaaDoor

/- CRC-32C, plain: bit by bit, by nibbles; linear; one to one. No Go text in sight. -/
namespace Go.Proofs.YtmncocmeafcpfaaDoor
namespace Crc

def P : Nat := 0x82f63b78
/-- one bit leaves -/
def bit (s : Nat) : Nat := (s / 2) ^^^ (if s % 2 = 1 then P else 0)
def it : Nat → Nat → Nat
  | 0, s => s
  | n + 1, s => it n (bit s)
theorem it_succ (n s : Nat) : it (n + 1) s = bit (it n s) := by
  induction n generalizing s with
  | zero => rfl
  | succ n ih => show it (n + 1) (bit s) = _; rw [ih]; rfl
theorem it_add (m n s : Nat) : it (m + n) s = it n (it m s) := by
  induction m generalizing s with
  | zero => simp [it]
  | succ m ih => rw [Nat.succ_add]; show it (m + n) (bit s) = _; rw [ih]; rfl
/-- a byte goes in -/
def stp (s x : Nat) : Nat := it 8 (s ^^^ x)
def run (s : Nat) (xs : List Nat) : Nat := xs.foldl stp s
def sum (xs : List Nat) : Nat := run 0xffffffff xs ^^^ 0xffffffff

theorem bit_lt {s : Nat} (h : s < 2 ^ 32) : bit s < 2 ^ 32 := by
  unfold bit
  refine Nat.xor_lt_two_pow (by omega) ?_
  split
  · unfold P; omega
  · omega
theorem it_lt {s : Nat} (n : Nat) (h : s < 2 ^ 32) : it n s < 2 ^ 32 := by
  induction n generalizing s with
  | zero => exact h
  | succ n ih => exact ih (bit_lt h)
theorem stp_lt {s x : Nat} (h : s < 2 ^ 32) (hx : x < 256) : stp s x < 2 ^ 32 := it_lt 8 (Nat.xor_lt_two_pow h (by omega))
theorem run_lt {s : Nat} {xs : List Nat} (h : s < 2 ^ 32) (hx : ∀ x ∈ xs, x < 256) : run s xs < 2 ^ 32 := by
  induction xs generalizing s with
  | nil => exact h
  | cons x xs ih => exact ih (stp_lt h (hx x (by simp))) (fun y hy => hx y (by simp [hy]))
theorem sum_lt {xs : List Nat} (hx : ∀ x ∈ xs, x < 256) : sum xs < 2 ^ 32 := Nat.xor_lt_two_pow (run_lt (by decide) hx) (by decide)
theorem run_append (s : Nat) (xs ys : List Nat) : run s (xs ++ ys) = run (run s xs) ys := List.foldl_append

theorem bit_zero : bit 0 = 0 := by decide
theorem bit_xor (a b : Nat) : bit (a ^^^ b) = bit a ^^^ bit b := by
  unfold bit
  have h1 : (a ^^^ b) / 2 = a / 2 ^^^ b / 2 := by
    apply Nat.eq_of_testBit_eq; intro i
    simp [Nat.testBit_div_two]
  have h2 : (a ^^^ b) % 2 = (a % 2 + b % 2) % 2 := by
    have := Nat.testBit_xor a b 0
    simp only [Nat.testBit_zero] at this
    have ha := Nat.mod_two_eq_zero_or_one a
    have hb := Nat.mod_two_eq_zero_or_one b
    have hc := Nat.mod_two_eq_zero_or_one (a ^^^ b)
    rcases ha with ha | ha <;> rcases hb with hb | hb <;> rcases hc with hc | hc <;> simp [ha, hb, hc] at this ⊢
  rw [h1, h2]
  have ha := Nat.mod_two_eq_zero_or_one a
  have hb := Nat.mod_two_eq_zero_or_one b
  rcases ha with ha | ha <;> rcases hb with hb | hb <;> simp [ha, hb]
  · rw [Nat.xor_assoc]
  · rw [Nat.xor_assoc, Nat.xor_assoc, Nat.xor_comm P]
  · rw [Nat.xor_assoc, Nat.xor_comm P, Nat.xor_assoc, Nat.xor_self, Nat.xor_zero]
theorem it_xor (n a b : Nat) : it n (a ^^^ b) = it n a ^^^ it n b := by
  induction n generalizing a b with
  | zero => rfl
  | succ n ih => show it n (bit (a ^^^ b)) = _; rw [bit_xor, ih]; rfl
theorem it_zero (n : Nat) : it n 0 = 0 := by
  induction n with
  | zero => rfl
  | succ n ih => show it n (bit 0) = 0; rw [bit_zero, ih]
theorem bit_double (s : Nat) : bit (2 * s) = s := by
  unfold bit
  rw [if_neg (by omega), Nat.xor_zero]; omega
theorem it_shift (n s : Nat) : it n (2 ^ n * s) = s := by
  induction n generalizing s with
  | zero => simp [it]
  | succ n ih =>
    show it n (bit (2 ^ (n + 1) * s)) = s
    rw [show 2 ^ (n + 1) * s = 2 * (2 ^ n * s) from by rw [Nat.pow_succ, Nat.mul_comm (2 ^ n) 2, Nat.mul_assoc], bit_double, ih]
/-- bits that leave by four -/
def tn (k : Nat) : Nat := it 4 k
theorem split4 (s : Nat) : s = (16 * (s / 16)) ^^^ (s % 16) := by
  have h := Nat.two_pow_add_eq_or_of_lt (i := 4) (b := s % 16) (by omega) (s / 16)
  have hx : 2 ^ 4 * (s / 16) ||| s % 16 = (2 ^ 4 * (s / 16)) ^^^ s % 16 := by
    apply Nat.eq_of_testBit_eq; intro i
    simp only [Nat.testBit_or, Nat.testBit_xor]
    by_cases hi : i < 4
    · have : (2 ^ 4 * (s / 16)).testBit i = false := by
        rw [Nat.mul_comm, Nat.testBit_mul_two_pow]; simp; intro h4; omega
      simp [this]
    · have : (s % 16).testBit i = false := Nat.testBit_lt_two_pow (Nat.lt_of_lt_of_le (by omega : s % 16 < 2 ^ 4) (Nat.pow_le_pow_right (by omega) (by omega)))
      simp [this]
  rw [show (16 : Nat) = 2 ^ 4 from rfl] at *
  rw [← hx, ← h]; omega
theorem it4 (s : Nat) : it 4 s = (s >>> 4) ^^^ tn (s &&& 15) := by
  have e : s &&& 15 = s % 16 := Nat.and_two_pow_sub_one_eq_mod s 4
  rw [Nat.shiftRight_eq_div_pow, e]
  conv => lhs; rw [split4 s]
  rw [it_xor, show (16 : Nat) = 2 ^ 4 from rfl, it_shift]; rfl
theorem stp_by4 (s x : Nat) : stp s x = it 4 (it 4 (s ^^^ x)) := (it_add 4 4 _)

/-- nothing but nought becomes nought -/
theorem bit_inj0 {s : Nat} (hs : s < 2 ^ 32) (h : bit s = 0) : s = 0 := by
  unfold bit at h
  split at h
  · exfalso
    have e : s / 2 = P := by
      have := congrArg (· ^^^ P) h
      simpa [Nat.xor_assoc] using this
    unfold P at e
    omega
  · simp at h; omega
theorem it_inj0 {s : Nat} (n : Nat) (hs : s < 2 ^ 32) (h : it n s = 0) : s = 0 := by
  induction n generalizing s with
  | zero => exact h
  | succ n ih => exact bit_inj0 hs (ih (bit_lt hs) h)
/-- both runs, held against each other -/
theorem run_xor {d : Nat} (s : Nat) : ∀ (xs ys : List Nat), xs.length = ys.length → run (s ^^^ d) (xs.zipWith (· ^^^ ·) ys) = run s xs ^^^ run d ys := by
  intro xs
  induction xs generalizing s d with
  | nil => intro ys h; cases ys <;> simp_all [run]
  | cons x xs ih =>
    intro ys h
    cases ys with
    | nil => simp at h
    | cons y ys =>
      simp only [List.zipWith_cons_cons]
      show run (stp (s ^^^ d) (x ^^^ y)) _ = run (stp s x) xs ^^^ run (stp d y) ys
      rw [← ih (d := stp d y) (stp s x) ys (by simpa using h)]
      congr 1
      unfold stp
      rw [← it_xor]
      congr 1
      rw [Nat.xor_assoc, Nat.xor_assoc, ← Nat.xor_assoc d, ← Nat.xor_assoc x, Nat.xor_comm d]
theorem run_zeros_inj {d : Nat} (n : Nat) (hd : d < 2 ^ 32) (h : run d (List.replicate n 0) = 0) : d = 0 := by
  induction n generalizing d with
  | zero => exact h
  | succ n ih =>
    rw [List.replicate_succ] at h
    have : stp d 0 = 0 := ih (stp_lt hd (by omega)) h
    unfold stp at this
    rw [Nat.xor_zero] at this
    exact it_inj0 8 hd this
/-- four bytes are a word -/
theorem run_word (a b c d : Nat) : run 0 [a, b, c, d] = it 32 (a ^^^ (256 * b) ^^^ (256 ^ 2 * c) ^^^ (256 ^ 3 * d)) := by
  show stp (stp (stp (stp 0 a) b) c) d = _
  simp only [stp, Nat.zero_xor]
  rw [show (32 : Nat) = 8 + (8 + (8 + 8)) from rfl]
  simp only [it_add, it_xor]
  rw [show it 8 (256 * b) = b from it_shift 8 b, show (256 ^ 2 * c) = 2 ^ 8 * (2 ^ 8 * c) from by omega, it_shift, show it 8 (2 ^ 8 * c) = c from it_shift 8 c,
    show (256 ^ 3 * d) = 2 ^ 8 * (2 ^ 8 * (2 ^ 8 * d)) from by omega, it_shift, it_shift, it_shift]
theorem word_zero {a b c d : Nat} (ha : a < 256) (hb : b < 256) (hc : c < 256) (hd : d < 256) (h : run 0 [a, b, c, d] = 0) : a = 0 ∧ b = 0 ∧ c = 0 ∧ d = 0 := by
  rw [run_word] at h
  have hw : a ^^^ (256 * b) ^^^ (256 ^ 2 * c) ^^^ (256 ^ 3 * d) < 2 ^ 32 :=
    Nat.xor_lt_two_pow (Nat.xor_lt_two_pow (Nat.xor_lt_two_pow (by omega) (by omega)) (by omega)) (by omega)
  have h0 := it_inj0 32 hw h
  have t : ∀ i, (a.testBit i ^^ (256 * b).testBit i ^^ (256 ^ 2 * c).testBit i ^^ (256 ^ 3 * d).testBit i) = false := fun i => by
    have := congrArg (fun n => n.testBit i) h0
    simpa [Nat.testBit_xor] using this
  have sh : ∀ (k x i : Nat), (2 ^ k * x).testBit i = (decide (k ≤ i) && x.testBit (i - k)) := fun k x i => Nat.testBit_two_pow_mul
  have out : ∀ {x i : Nat}, x < 256 → 8 ≤ i → x.testBit i = false := fun hx hi => Nat.testBit_lt_two_pow (Nat.lt_of_lt_of_le hx (Nat.pow_le_pow_right (n := 2) (by omega) hi))
  have e8 : (256 : Nat) = 2 ^ 8 := rfl
  have e16 : (256 ^ 2 : Nat) = 2 ^ 16 := rfl
  have e24 : (256 ^ 3 : Nat) = 2 ^ 24 := rfl
  rw [e16, e24, e8] at t
  have z : ∀ {x : Nat}, x < 256 → (∀ i, i < 8 → x.testBit i = false) → x = 0 := fun {x} hx h => by
    apply Nat.eq_of_testBit_eq; intro i
    rw [Nat.zero_testBit]
    by_cases hi : i < 8
    · exact h i hi
    · exact out hx (by omega)
  have ea : a = 0 := z ha fun i hi => by
    have := t i
    rw [sh, sh, sh] at this
    simpa [show ¬ 8 ≤ i from by omega, show ¬ 16 ≤ i from by omega, show ¬ 24 ≤ i from by omega] using this
  have eb : b = 0 := z hb fun i hi => by
    have := t (i + 8)
    rw [sh, sh, sh, out ha (by omega)] at this
    simpa [show ¬ 16 ≤ i + 8 from by omega, show ¬ 24 ≤ i + 8 from by omega] using this
  have ec : c = 0 := z hc fun i hi => by
    have := t (i + 16)
    rw [sh, sh, sh, out ha (by omega), out (i := i + 16 - 8) hb (by omega)] at this
    simpa [show ¬ 24 ≤ i + 16 from by omega] using this
  have ed : d = 0 := z hd fun i hi => by
    have := t (i + 24)
    rw [sh, sh, sh, out ha (by omega), out (i := i + 24 - 8) hb (by omega), out (i := i + 24 - 16) hc (by omega)] at this
    simpa using this
  exact ⟨ea, eb, ec, ed⟩
end Crc
end Go.Proofs.YtmncocmeafcpfaaDoor

/- The walks of frame.Sum and of the reference's Sum and Big. -/
namespace Go.Proofs.YtmncocmeafcpfaaDoor
open Go.RowKit Go.Deep

/-- the table of turns lies in memory -/
def Turns (w : World) : Prop := ∀ k : Nat, k < 16 → w.cell? ⟨0, k, none⟩ = some (.int .u32 ((Crc.tn k : Nat) : Int))
theorem Turns.keep {S : Nat → Prop} {w w' : World} (h : Turns w) (k : Kp S w w') (hb : ¬ S 0) : Turns w' := fun i hi => k.cellv (h i hi) hb
theorem Turns.keep0 {w w' : World} (h : Turns w) (k : Kp (fun _ => False) w w') : Turns w' := h.keep k id
theorem Turns.lt {w : World} (h : Turns w) : 0 < w.heap.size := World.block_lt_of_cell? _ _ (h 0 (by omega))

theorem u32_xor_c (a b : Nat) (ha : a < 2 ^ 32) (hb : b < 2 ^ 32) : bits .xor .u32 (a : Int) (b : Int) = ((a ^^^ b : Nat) : Int) := u32_xor_nat a b (by omega) (by omega)
theorem u32_and_c (a b : Nat) (ha : a < 2 ^ 32) (hb : b < 2 ^ 32) : bits .and .u32 (a : Int) (b : Int) = ((a &&& b : Nat) : Int) := u32_and_nat a b (by omega) (by omega)

theorem ret_num {k : IntKind} {a b : Int} (h : a = b) : Ending.returned (.int k a) = .returned (.int k b) := by rw [h]
theorem nib (t : Nat) (h : t < 2 ^ 32) : ∃ y : Nat, y < 16 ∧ bits .and .u32 (t : Int) 15 = (y : Int) ∧ bits .xor .u32 ((t : Int) / 16) ((Crc.tn y : Nat) : Int) = ((Crc.it 4 t : Nat) : Int) := by
  have hy : t &&& 15 < 16 := Nat.and_lt_two_pow (n := 4) _ (by omega)
  have ht : Crc.tn (t &&& 15) < 2 ^ 32 := Crc.it_lt 4 (by omega)
  refine ⟨t &&& 15, hy, u32_and_c t 15 h (by omega), ?_⟩
  rw [show (t : Int) / 16 = ((t / 16 : Nat) : Int) from by omega, u32_xor_c _ _ (by omega) ht, Crc.it4, Nat.shiftRight_eq_div_pow]
theorem take_snoc {xs : List Nat} {k : Nat} (h : k < xs.length) : xs.take (k + 1) = xs.take k ++ [xs.getD k 0] := by
  rw [List.take_succ_eq_append_getElem h, List.getD_eq_getElem?_getD, List.getElem?_eq_getElem h]; rfl
theorem run_snoc {xs : List Nat} {k : Nat} (s : Nat) (h : k < xs.length) : Crc.run s (xs.take (k + 1)) = Crc.stp (Crc.run s (xs.take k)) (xs.getD k 0) := by
  rw [take_snoc h, Crc.run_append]; rfl
theorem Rb.take_byte {w : World} {p : Option Addr} {n : Nat} {xs : List Nat} (h : Rb w p n xs) (k : Nat) : ∀ x ∈ xs.take k, x < 256 := fun x hx => h.byte x (List.mem_of_mem_take hx)

set_option maxRecDepth 100000 in
set_option maxHeartbeats 400000 in
theorem sum_any (p : Option Addr) (n c : Nat) (xs : List Nat) (w : World) (h : Rb w p n xs) (hn : (n : Int) ≤ 1000000000000000) (ht : Turns w) :
    Calls Tryd.prog 70 #[.slice p n c] w fun e w' => e = .returned (.int .u32 ((Crc.sum xs : Nat) : Int)) ∧ w' = w := by
  go_enter Tryd.func70, Tryd.ntmps70
  go_wp2
  go_loopw [3, 8] (fun s i w' => ∃ k : Nat, k ≤ n ∧ i = .int .i64 k ∧ s = .int .u32 ((Crc.run 4294967295 (xs.take k) : Nat) : Int) ∧ w' = w) (fun _ i _ => n - (intOf i).toNat)
  case atStart => exact ⟨0, Nat.zero_le _, rfl, rfl, rfl⟩
  case round =>
    obtain ⟨k, hk, rfl, rfl, rfl⟩ := hrel
    have hs0 : Crc.run 4294967295 (xs.take k) < 2 ^ 32 := Crc.run_lt (by omega) (h.take_byte k)
    by_cases hlt : (k : Int) < (n : Int)
    · obtain ⟨b, o, rfl, hb⟩ := h.pt (by omega)
      have hc := hb k (by omega)
      have hx := h.byteAt k
      have HR : Hid (_ = _) := run_snoc (xs := xs) 4294967295 (k := k) (by rw [h.len]; omega)
      obtain ⟨x, hxe⟩ : ∃ x, x = xs.getD k 0 := ⟨_, rfl⟩
      obtain ⟨s, hse⟩ : ∃ s, s = Crc.run 4294967295 (xs.take k) := ⟨_, rfl⟩
      rw [← hxe] at hc hx HR
      rw [← hse] at hs0 HR ⊢
      clear hxe hse hb h
      have e1 := u32_xor_c s x hs0 (by omega)
      obtain ⟨t, hte⟩ : ∃ t, t = s ^^^ x := ⟨_, rfl⟩
      have ht0 : t < 2 ^ 32 := by rw [hte]; exact Nat.xor_lt_two_pow hs0 (by omega)
      rw [← hte] at e1
      have HT : Hid (_ = _) := Crc.stp_by4 s x
      rw [← hte] at HT
      clear hte
      obtain ⟨y, hy, e2, e3⟩ := nib t ht0
      have ht1 := Crc.it_lt 4 ht0
      obtain ⟨t', hte⟩ : ∃ t', t' = Crc.it 4 t := ⟨_, rfl⟩
      rw [← hte] at e3 ht1 HT
      clear hte
      obtain ⟨z, hz, e4, e5⟩ := nib t' ht1
      have c1 := ht y hy
      have c2 := ht z hz
      obtain ⟨t2, hte⟩ : ∃ t2, t2 = Crc.it 4 t' := ⟨_, rfl⟩
      rw [← hte] at e5 HT
      clear hte
      go_wp2
      go_roundw
      case rel => exact ⟨k + 1, by omega, by go_num, by rw [HR.out, HT.out], trivial⟩
      case measure => simp [intOf]; omega
    · have e : k = n := by omega
      subst e
      have hte : xs.take k = xs := List.take_of_length_le (by rw [h.len]; omega)
      have HS : Hid (bits .xor .u32 IntKind.u32.max ((Crc.run 4294967295 xs : Nat) : Int) = ((Crc.sum xs : Nat) : Int)) := by
        show bits .xor .u32 ((4294967295 : Nat) : Int) _ = _
        rw [u32_xor_c 4294967295 _ (by omega) (by rw [← hte]; exact hs0), Nat.xor_comm]; rfl
      rw [hte]
      clear hte
      go_wp2
      go_ret
      exact ⟨ret_num HS.out, rfl⟩

theorem bit_even (s : Nat) (h : s % 2 = 0) : Crc.bit s = s / 2 := by unfold Crc.bit; rw [if_neg (by omega), Nat.xor_zero]
theorem bit_odd (s : Nat) (h : s % 2 = 1) : Crc.bit s = s / 2 ^^^ 2197175160 := by unfold Crc.bit; rw [if_pos h]; rfl

set_option maxRecDepth 100000 in
set_option maxHeartbeats 400000 in
theorem refSum_any (p : Option Addr) (n c : Nat) (xs : List Nat) (w : World) (h : Rb w p n xs) (hn : (n : Int) ≤ 1000000000000000) :
    Calls Tryd.prog 26 #[.slice p n c] w fun e w' => e = .returned (.int .u32 ((Crc.sum xs : Nat) : Int)) ∧ w' = w := by
  go_enter Tryd.func26, Tryd.ntmps26
  go_wp2
  go_loopw [3, 9] (fun s i w' => ∃ k : Nat, k ≤ n ∧ i = .int .i64 k ∧ s = .int .u32 ((Crc.run 4294967295 (xs.take k) : Nat) : Int) ∧ w' = w) (fun _ i _ => n - (intOf i).toNat)
  case atStart => exact ⟨0, Nat.zero_le _, rfl, rfl, rfl⟩
  case round =>
    obtain ⟨k, hk, rfl, rfl, rfl⟩ := hrel
    have hs0 : Crc.run 4294967295 (xs.take k) < 2 ^ 32 := Crc.run_lt (by omega) (h.take_byte k)
    by_cases hlt : (k : Int) < (n : Int)
    · obtain ⟨b, o, rfl, hb⟩ := h.pt (by omega)
      have hc := hb k (by omega)
      have hx := h.byteAt k
      have HR : Hid (_ = _) := run_snoc (xs := xs) 4294967295 (k := k) (by rw [h.len]; omega)
      obtain ⟨x, hxe⟩ : ∃ x, x = xs.getD k 0 := ⟨_, rfl⟩
      obtain ⟨s, hse⟩ : ∃ s, s = Crc.run 4294967295 (xs.take k) := ⟨_, rfl⟩
      rw [← hxe] at hc hx HR
      rw [← hse] at hs0 HR ⊢
      clear hxe hse hb h
      have e1 := u32_xor_c s x hs0 (by omega)
      obtain ⟨t, hte⟩ : ∃ t, t = s ^^^ x := ⟨_, rfl⟩
      have ht0 : t < 2 ^ 32 := by rw [hte]; exact Nat.xor_lt_two_pow hs0 (by omega)
      rw [← hte] at e1
      have HT : Hid (Crc.stp s x = Crc.it 8 t) := by rw [hte]; rfl
      clear hte
      obtain ⟨wr0, rfl⟩ : ∃ x, x = wr := ⟨_, rfl⟩
      go_wp2
      go_loopw [3, 17] (fun s i w' => ∃ j : Nat, j ≤ 8 ∧ i = .int .i64 j ∧ s = .int .u32 ((Crc.it j t : Nat) : Int) ∧ w' = wr0) (fun _ i _ => 8 - (intOf i).toNat)
      case atStart => exact ⟨0, Nat.zero_le _, rfl, rfl, rfl⟩
      case round =>
        obtain ⟨j, hj, rfl, rfl, rfl⟩ := hrel
        have hq := Crc.it_lt j ht0
        have HI : Hid (_ = _) := Crc.it_succ j t
        obtain ⟨q, hqe⟩ : ∃ q, q = Crc.it j t := ⟨_, rfl⟩
        rw [← hqe] at hq HI ⊢
        by_cases hlj : (j : Int) < 8
        · clear hqe
          by_cases ho : q % 2 = 1
          · have d1 : ((q : Int) % 2 == 1) = true := by rw [beq_iff_eq]; omega
            have HB : Hid (_ = _) := bit_odd q ho
            have e5 : bits .xor .u32 ((q : Int) / 2) 2197175160 = ((q / 2 ^^^ 2197175160 : Nat) : Int) := by
              rw [show (q : Int) / 2 = ((q / 2 : Nat) : Int) from by omega]
              exact u32_xor_c (q / 2) 2197175160 (by omega) (by omega)
            obtain ⟨q2, hq2⟩ : ∃ q2, q2 = q / 2 ^^^ 2197175160 := ⟨_, rfl⟩
            rw [← hq2] at HB e5
            clear hq2 ho
            go_wp2
            go_roundw
            case rel => exact ⟨j + 1, by omega, by go_num, by rw [HI.out, HB.out], trivial⟩
            case measure => simp [intOf]; omega
          · have d1 : ((q : Int) % 2 == 1) = false := by rw [beq_eq_false_iff_ne]; omega
            have HB : Hid (_ = _) := bit_even q (by omega)
            clear ho
            go_wp2
            go_roundw
            case rel => exact ⟨j + 1, by omega, by go_num, by rw [HI.out, HB.out]; go_num, trivial⟩
            case measure => simp [intOf]; omega
        · have e : j = 8 := by omega
          subst e
          have HQ : Hid (q = Crc.it 8 t) := hqe
          clear hqe
          go_wp2
          go_roundw
          case rel => exact ⟨k + 1, by omega, by go_num, by rw [HR.out, HT.out, HQ.out], trivial⟩
          case measure => simp [intOf]; omega
    · have e : k = n := by omega
      subst e
      have hte : xs.take k = xs := List.take_of_length_le (by rw [h.len]; omega)
      have HS : Hid (bits .xor .u32 ((Crc.run 4294967295 xs : Nat) : Int) 4294967295 = ((Crc.sum xs : Nat) : Int)) := by
        have := u32_xor_c (Crc.run 4294967295 xs) 4294967295 (by rw [← hte]; exact hs0) (by omega)
        exact this
      rw [hte]
      clear hte
      go_wp2
      go_ret
      exact ⟨ret_num HS.out, rfl⟩

/-- a number in so many bytes, the highest first -/
def big (n w : Nat) : List Nat := (List.range w).map fun j => n / 256 ^ (w - 1 - j) % 256
theorem big_length (n w : Nat) : (big n w).length = w := by simp [big]
theorem big_byte (n w : Nat) : ∀ x ∈ big n w, x < 256 := fun x hx => by
  obtain ⟨j, _, rfl⟩ := List.mem_map.1 hx
  exact Nat.mod_lt _ (by omega)
theorem big_at (n w j : Nat) (h : j < w) : (big n w).getD j 0 = n / 256 ^ (w - 1 - j) % 256 := by
  unfold big
  rw [List.getD_eq_getElem?_getD, List.getElem?_map, List.getElem?_range h]; rfl
def bigF (n w r : Nat) : Nat → Value := fun j => .int .u8 (((if w - r ≤ j then n / 256 ^ (w - 1 - j) % 256 else 0 : Nat) : Nat) : Int)
theorem bigF_succ (n w r j : Nat) (hr : r < w) : bigF n w (r + 1) j = if j = w - 1 - r then .int .u8 ((n / 256 ^ r % 256 : Nat) : Int) else bigF n w r j := by
  unfold bigF
  by_cases e : j = w - 1 - r
  · subst e; rw [if_pos rfl, if_pos (by omega), show w - 1 - (w - 1 - r) = r from by omega]
  · rw [if_neg e]
    by_cases h : w - r ≤ j
    · rw [if_pos h, if_pos (by omega)]
    · rw [if_neg h, if_neg (by omega)]
theorem ow_of_row {w : World} {base b n : Nat} {f : Nat → Value} {xs : List Nat} (h : w.rowIs b 5 n f) (hb : base ≤ b) (hl : xs.length = n) (hm : n ≤ maxLen) (hf : ∀ j, j < n → f j = .int .u8 ((xs.getD j 0 : Nat) : Int)) :
    Ow w base (.slice (some ⟨b, 0, none⟩) n n) xs := by
  obtain ⟨cs, hh, hs, hc⟩ := h
  refine ⟨by rw [vl_length]; omega, Or.inr ⟨b, n, cs, by rw [hl], hb, hh, by omega, hm, by omega, ?_⟩⟩
  rw [List.take_of_length_le (by simp; omega)]
  apply List.ext_getElem?
  intro i
  by_cases hi : i < n
  · rw [Array.getElem?_toList, hc i hi, hf i hi, vl_get (by omega)]
  · rw [Array.getElem?_toList, Array.getElem?_eq_none (by omega), List.getElem?_eq_none (by rw [vl_length]; omega)]

end Go.Proofs.YtmncocmeafcpfaaDoor

/- Maps by whatever numbers. -/
namespace Go.Proofs.YtmncocmeafcpfaaDoor
set_option linter.unusedVariables false
open Go.RowKit Go.Deep Go.Maps

/-- what D has under numbers: T, c of them -/
structure Md (D : DataW Value) (c : Nat) (T : Int → Option Value) : Prop where
  no : ∀ z, T z = none → Maps.has D (.int .i64 z) = false
  yes : ∀ z v, T z = some v → Maps.has D (.int .i64 z) = true ∧ ∀ y, D.atKey (.int .i64 z) y = .held v
  size : Maps.size D = c
/-- block m is a map of c values by numbers -/
def Mm (w : World) (m q c : Nat) (T : Int → Option Value) : Prop := ∃ D, w.ownsMap Tryd.prog 3 idR m q D ∧ Md D c T
theorem Mm.lt {w : World} {m q c : Nat} {T : Int → Option Value} (h : Mm w m q c T) : m < w.heap.size := by
  obtain ⟨D, h1, h2⟩ := h
  exact h1.lt
theorem Mm.keep {S : Nat → Prop} {w w' : World} {m q c : Nat} {T : Int → Option Value} (h : Mm w m q c T) (k : Kp S w w') (hS : ¬ S m) : Mm w' m q c T := by
  have hlt := h.lt
  obtain ⟨D, ⟨es, clock, hb, r⟩, h2⟩ := h
  exact ⟨D, ⟨es, clock, (k.block m hlt hS).trans hb, r⟩, h2⟩
theorem Mm.made (w : World) : Mm (w.alloc (.map #[] 0)) w.heap.size 0 0 (fun _ => none) :=
  ⟨_, World.ownsMap_made w _ _ _, fun _ _ => rfl, fun _ _ h => (by cases h), rfl⟩
/-- T with v at z -/
def upd (T : Int → Option Value) (z : Int) (v : Value) : Int → Option Value := fun x => if x = z then some v else T x
theorem Md.put {D : DataW Value} {c : Nat} {T : Int → Option Value} {v : Value} {z : Int} (hT : Tidy D) (h : Md D c T) : Md (D.put (.int .i64 z) (.held v)) (c + (if (T z).isSome then 0 else 1)) (upd T z v) := by
  have hM := hT.isMap
  have hzz : WideAt.IsKeyLit (Lit.int .i64 z) := trivial
  refine ⟨fun x hx => ?_, fun x u hx => ?_, ?_⟩
  · unfold upd at hx
    by_cases e : x = z
    · rw [if_pos e] at hx; cases hx
    · rw [if_neg e] at hx
      rw [has_put_other (fun h => e (by injection h))]
      exact h.no x hx
  · unfold upd at hx
    by_cases e : x = z
    · rw [if_pos e] at hx
      injection hx with hx
      subst hx e
      exact ⟨has_put_same hM hzz _, fun y => atKey_put_same hM hzz _ y⟩
    · rw [if_neg e] at hx
      have hne : Lit.int .i64 x ≠ Lit.int .i64 z := fun h => e (by injection h)
      obtain ⟨b, c⟩ := h.yes x u hx
      exact ⟨by rw [has_put_other hne]; exact b, fun y => by rw [atKey_put_other hne]; exact c y⟩
  · rw [size_put hT, h.size]
    cases hz : T z with
    | none => rw [h.no z hz]; rfl
    | some u => rw [(h.yes z u hz).1]; rfl
theorem Md.look {D : DataW Value} {c : Nat} {T : Int → Option Value} (h : Md D c T) (z : Int) (y : Value) : Maps.has D (.int .i64 z) = (T z).isSome ∧ D.atKey (.int .i64 z) (.held y) = .held ((T z).getD y) := by
  cases hz : T z with
  | none => exact ⟨h.no z hz, atKey_of_not_has (h.no z hz) _⟩
  | some v => exact ⟨(h.yes z v hz).1, (h.yes z v hz).2 _⟩
theorem z_key (z : Int) (h : (Lit.int .i64 z).wf = true) : keyOf Tryd.prog 3 (.int .i64 z) = some (.int .i64 z) := keyOf_int_mk Tryd.underlying3 h
theorem z_wf {z : Int} (h : -9223372036854775808 ≤ z ∧ z ≤ 9223372036854775807) : (Lit.int .i64 z).wf = true := WalkArith.wf_i64 h

section
variable {MT ET : TypeId} {zv : Value}
theorem wpList_look_mm {ops : Array Oper} {rest : List Oper} {o : Oper} {a : Act} {w : World} {Q : Exit → Act → World → Prop} (hg : o.guard = none) (mm x : Operand) (hop : o.op = Op.lookup MT mm x true)
    (hu : Tryd.prog.underlying MT = some (.map 3 ET)) (hz : ∀ w, (zeroValue ET).run Tryd.prog w = .ok zv w)
    (m q c : Nat) (T : Int → Option Value) (h : Mm w m q c T) (hm : a.eval mm = .map (some m)) (z : Int) (hw : (Lit.int .i64 z).wf = true) (hx : a.eval x = .int .i64 z)
    (hK : wpList Tryd.prog ops Q rest (a.put o.dst (.tuple #[(T z).getD zv, .bool (T z).isSome])) w) : wpList Tryd.prog ops Q (o :: rest) a w := by
  obtain ⟨D, h1, h2⟩ := h
  obtain ⟨e1, e2⟩ := h2.look z zv
  refine wpList_lookup_own_ok _ hg mm x MT hop 3 ET intLaw hu idR (hz w) (.held zv) [] rfl m q D hm h1 _ _ hx (z_key z hw) ?_
  intro v ps hv
  rw [e2] at hv
  injection hv with hv
  injection hv with hv _
  injection hv with hv
  rw [hv, e1]
  exact hK
set_option maxRecDepth 100000 in
theorem look_mm_ok {w : World} {m q c : Nat} {T : Int → Option Value} (hu : Tryd.prog.underlying MT = some (.map 3 ET)) (hz : ∀ w, (zeroValue ET).run Tryd.prog w = .ok zv w) (h : Mm w m q c T) (z : Int) (hw : (Lit.int .i64 z).wf = true) : (Instr.lookup MT (.map (some m)) (.int .i64 z) true).run Tryd.prog w = .ok (.tuple #[(T z).getD zv, .bool (T z).isSome]) w := by
  obtain ⟨D, h1, h2⟩ := h
  obtain ⟨e1, e2⟩ := h2.look z zv
  obtain ⟨v, ps, hrun, hv⟩ := h1.look_ok intLaw hu (hz w) (zd := .held zv) (zp := []) rfl (z_key z hw)
  rw [e2] at hv
  injection hv with hv
  injection hv with hv _
  injection hv with hv
  rw [hrun, hv, e1]
set_option maxRecDepth 100000 in
theorem look_mm {w : World} {m q c : Nat} {T : Int → Option Value} (hu : Tryd.prog.underlying MT = some (.map 3 ET)) (hz : ∀ w, (zeroValue ET).run Tryd.prog w = .ok zv w) (h : Mm w m q c T) (z : Int) (hw : (Lit.int .i64 z).wf = true) : (Instr.lookup MT (.map (some m)) (.int .i64 z) false).run Tryd.prog w = .ok ((T z).getD zv) w := by
  obtain ⟨D, h1, h2⟩ := h
  obtain ⟨e1, e2⟩ := h2.look z zv
  obtain ⟨v, ps, hrun, hv⟩ := h1.lookup intLaw hu (hz w) (zd := .held zv) (zp := []) rfl (z_key z hw)
  rw [e2] at hv
  injection hv with hv
  injection hv with hv _
  injection hv with hv
  rw [hrun, hv]
theorem wpList_put_mm {ops : Array Oper} {rest : List Oper} {o : Oper} {a : Act} {w : World} {Q : Exit → Act → World → Prop} (hg : o.guard = none) (mm x v : Operand) (hop : o.op = Op.mapUpdate MT mm x v)
    (hu : Tryd.prog.underlying MT = some (.map 3 ET))
    (m q c : Nat) (T : Int → Option Value) (h : Mm w m q c T) (hm : a.eval mm = .map (some m)) (hq : q < 4611686018427387904) (z : Int) (hw : (Lit.int .i64 z).wf = true) (hx : a.eval x = .int .i64 z) (u : Value) (hv : a.eval v = u)
    (hK : ∀ w', Mm w' m (q + 1) (c + (if (T z).isSome then 0 else 1)) (upd T z u) → Kp (fun x => x = m) w w' → wpList Tryd.prog ops Q rest (a.put o.dst undef) w') : wpList Tryd.prog ops Q (o :: rest) a w := by
  obtain ⟨D, h1, h2⟩ := h
  refine wpList_mapUpdate_own _ hg mm x v MT hop 3 ET intLaw hu _ m q D hm h1 (by unfold maxLen; omega) _ _ _ hx hv (z_key _ hw) (.held u) [] rfl ?_
  intro w' h3 hg'
  exact hK w' ⟨_, h3, h2.put (h1.tidy intLaw)⟩ ((grownBy_kp hg').mono (fun b _ e => by cases e; rfl))
theorem len_mm {w : World} {m q c : Nat} {T : Int → Option Value} (hu : Tryd.prog.underlying MT = some (.map 3 ET)) (h : Mm w m q c T) (ty : TypeId) : (Builtin.len_ #[MT] ty #[.map (some m)]).run Tryd.prog w = .ok (.int .i64 (c : Int)) w := by
  obtain ⟨D, h1, h2⟩ := h
  rw [h1.len hu ty, h2.size]
end

/-- a list of numbers, as a slice, in blocks of which Z holds -/
def Ni (w : World) (Z : Nat → Prop) (zs : List Int) (nv : Value) : Prop := ∃ p cap, nv = .slice p zs.length cap ∧ Fl w Z p (zs.map encI) ∧ zs.length * 8 ≤ 140737488355328
theorem Ni.keep {S Z : Nat → Prop} {w w' : World} {zs : List Int} {nv : Value} (h : Ni w Z zs nv) (k : Kp S w w') (hS : ∀ b, Z b → ¬ S b) : Ni w' Z zs nv := by
  obtain ⟨p, cap, e, hf, hn⟩ := h
  exact ⟨p, cap, e, hf.keep k hS, hn⟩
theorem Ni.mono {Z Z' : Nat → Prop} {w : World} {zs : List Int} {nv : Value} (h : Ni w Z zs nv) (hz : ∀ b, Z b → Z' b) : Ni w Z' zs nv := by
  obtain ⟨p, cap, e, hf, hn⟩ := h
  exact ⟨p, cap, e, hf.mono hz, hn⟩

end Go.Proofs.YtmncocmeafcpfaaDoor
