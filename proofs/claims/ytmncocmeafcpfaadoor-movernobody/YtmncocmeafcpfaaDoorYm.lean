/- Movers that no call made; the walk of the law MoverNobody. -/
import Derived.Test.YtmncocmeafcpfaaDoorYl
namespace Go.Proofs.YtmncocmeafcpfaaDoor
set_option linter.unusedVariables false
set_option linter.unusedSimpArgs false
open Go.RowKit Go.Deep

/-- v is a mover that no call made -/
def Nm (w : World) (v : Value) : Prop := v = .pointer none ∨ ∃ b, v = .pointer (some ⟨b, 0, none⟩) ∧ w.cell? ⟨b, 0, none⟩ = some (.int .i64 0)
theorem Nm.keep {w w' : World} {v : Value} (h : Nm w v) (k : Kp (fun _ => False) w w') : Nm w' v := by
  rcases h with h | ⟨b, h, hc⟩
  · exact Or.inl h
  · exact Or.inr ⟨b, h, k.cellv hc id⟩

set_option maxRecDepth 100000 in
set_option maxHeartbeats 400000 in
theorem nphase (v : Value) (w : World) (h : Nm w v) : Calls Tryd.prog 15 #[v] w fun e w' => e = .returned (.int .i64 0) ∧ w' = w := by
  rcases h with rfl | ⟨b, rfl, hc⟩
  · go_enter Tryd.func15, Tryd.ntmps15
    go_wp2
    go_ret
    exact ⟨rfl, rfl⟩
  · exact mphase_ok b 0 w hc

set_option maxRecDepth 100000 in
set_option maxHeartbeats 400000 in
theorem nmade (v : Value) (w : World) (h : Nm w v) : Calls Tryd.prog 52 #[v] w fun e w' => e = .returned (.bool false) ∧ w' = w := by
  have H : Hid (Calls _ _ _ w _) := nphase v w h
  clear h
  go_enter Tryd.func52, Tryd.ntmps52
  go_wp2_with (go_at_call 15; refine H.out.mono ?_; rintro e w1 ⟨rfl, hw1⟩; subst hw1)
  go_ret
  exact ⟨rfl, rfl⟩

set_option maxRecDepth 100000 in
set_option maxHeartbeats 400000 in
theorem nasks (v : Value) (i : Int) (w : World) (h : Nm w v) : Calls Tryd.prog 24 #[v, .int .i64 i] w fun e w' => e = .returned (.slice none 0 0) ∧ w' = w := by
  have H : Hid (Calls _ _ _ w _) := nphase v w h
  clear h
  go_enter Tryd.func24, Tryd.ntmps24
  go_wp2_with (go_at_call 15; refine H.out.mono ?_; rintro e w1 ⟨rfl, hw1⟩; subst hw1)
  go_ret
  exact ⟨rfl, rfl⟩

set_option maxRecDepth 100000 in
set_option maxHeartbeats 400000 in
theorem non (v : Value) (c : Array Value) (w : World) (h : Nm w v) : Calls Tryd.prog 16 #[v, .agg c] w fun e w' => e = .returned (.bool false) ∧ Kp (fun _ => False) w w' := by
  have H : Hid (∀ u, Kp (fun _ => False) w u → Calls _ _ _ u _) := fun u k => nphase v u (h.keep k)
  clear h
  go_enter Tryd.func16, Tryd.ntmps16
  go_wp2_with (go_at_call 15; refine (H.out _ (by exact (Kp.refl _ _).alloc _)).mono ?_; rintro e w1 ⟨rfl, hw1⟩; subst hw1)
  go_ret
  exact ⟨rfl, (Kp.refl _ _).alloc _⟩

set_option maxRecDepth 100000 in
set_option maxHeartbeats 400000 in
theorem nshard (v : Value) (w : World) (h : Nm w v) : Calls Tryd.prog 19 #[v] w fun e w' => e = .returned (.slice none 0 0) ∧ w' = w := by
  have H : Hid (Calls _ _ _ w _) := nmade v w h
  clear h
  go_enter Tryd.func19, Tryd.ntmps19
  go_wp2_with (go_at_call 52; refine H.out.mono ?_; rintro e w1 ⟨rfl, hw1⟩; subst hw1)
  go_ret
  exact ⟨rfl, rfl⟩

set_option maxRecDepth 100000 in
set_option maxHeartbeats 400000 in
theorem nhave (v : Value) (w : World) (h : Nm w v) : Calls Tryd.prog 25 #[v, .slice none 0 0] w fun e w' => e = .returned (.int .i64 2) ∧ w' = w := by
  have H : Hid (Calls _ _ _ w _) := nmade v w h
  clear h
  go_enter Tryd.func25, Tryd.ntmps25
  go_wp2_with (go_at_call 52; refine H.out.mono ?_; rintro e w1 ⟨rfl, hw1⟩; subst hw1)
  go_ret
  exact ⟨rfl, rfl⟩

set_option maxRecDepth 100000 in
set_option maxHeartbeats 400000 in
theorem nstored (v : Value) (i : Int) (w : World) (h : Nm w v) : Calls Tryd.prog 22 #[v, .int .i64 i] w fun e w' => e = .returned (.int .i64 2) ∧ w' = w := by
  have H : Hid (Calls _ _ _ w _) := nmade v w h
  clear h
  go_enter Tryd.func22, Tryd.ntmps22
  go_wp2_with (go_at_call 52; refine H.out.mono ?_; rintro e w1 ⟨rfl, hw1⟩; subst hw1)
  go_ret
  exact ⟨rfl, rfl⟩

set_option maxRecDepth 100000 in
set_option maxHeartbeats 400000 in
theorem nskip (v : Value) (w : World) (h : Nm w v) : Calls Tryd.prog 21 #[v] w fun e w' => e = .returned (.int .i64 2) ∧ w' = w := by
  have H : Hid (Calls _ _ _ w _) := nmade v w h
  clear h
  go_enter Tryd.func21, Tryd.ntmps21
  go_wp2_with (go_at_call 52; refine H.out.mono ?_; rintro e w1 ⟨rfl, hw1⟩; subst hw1)
  go_ret
  exact ⟨rfl, rfl⟩

theorem szMove : (Tryd.prog.info? 49).map (·.size) = some 3 := by kernel_rfl
theorem dsMove : ∃ d, Tryd.prog.underlying 49 = some d ∧ d.isRow = true := ⟨_, Tryd.underlying49, rfl⟩
set_option maxRecDepth 100000 in
set_option maxHeartbeats 400000 in
theorem nmove (v : Value) (w : World) (h : Nm w v) : Calls Tryd.prog 20 #[v] w fun e w' => e = .returned (.agg #[.int .i64 0, .int .i64 0, .int .i64 0]) ∧ Kp (fun _ => False) w w' := by
  have H : Hid (∀ u, Kp (fun _ => False) w u → Calls _ _ _ u _) := fun u k => nmade v u (h.keep k)
  have HL : Hid (Lv (w.alloc (.cells #[.int .i64 0, .int .i64 0, .int .i64 0] 49)) w.heap.size [.int .i64 0, .int .i64 0, .int .i64 0]) := Lv.new w _ _
  have ka : Kp (fun _ => False) w (w.alloc (.cells #[.int .i64 0, .int .i64 0, .int .i64 0] 49)) := (Kp.refl _ _).alloc _
  clear h
  go_enter Tryd.func20, Tryd.ntmps20
  go_wp2_with (go_at_call 52; refine (H.out _ ka).mono ?_; rintro e w1 ⟨rfl, hw1⟩; subst hw1)
  refine bodyPost_ret (res_cell Tryd.results20 _ _ w.heap.size _ rfl (HL.out.load dsMove szMove rfl)) rfl ?_
  exact ⟨rfl, ka⟩

theorem wpList_ldw {ops : Array Oper} {rest : List Oper} {op : Oper} {a : Act} {w : World} {Q : Exit → Act → World → Prop} (hw : Region.wanted op (yielded ops a.tmps) = true) (ty : TypeId) (x : Operand) (ho : op.op = .load ty x)
    (b o : Nat) (hx : a.eval x = .pointer (some ⟨b, o, none⟩)) (cs : List Value) (d : TypeDesc) (hc : w.rangeAt b o cs)
    (hu : Tryd.prog.underlying ty = some d) (hd : d.isRow = true) (hi : (Tryd.prog.info? ty).map (·.size) = some cs.length)
    (h : wpList Tryd.prog ops Q rest (a.put op.dst (.agg cs.toArray)) w) : wpList Tryd.prog ops Q (op :: rest) a w :=
  wpList_step fun K hK => by simp only [hw, if_true]; exact wp_load_mid ty x ho b o hx cs d hc hu hd hi (hK _ _ h)

abbrev zMov : Array Value := #[.int .i64 0, .int .i64 0, .int .i64 0, .int .i64 0, .int .i64 0, .pointer none, .slice none 0 0, .int .i64 0]
set_option maxRecDepth 100000 in
set_option maxHeartbeats 3200000 in
theorem moverNobody_walk (c : Array Value) (ep : Int) (w : World) (hsz : c.size = 24) (_h : (Lit.int .i64 ep).wf = true) :
    Calls Tryd.prog 5 #[.agg c, .int .i64 ep] w fun e w' => e = .returned (.bool true) ∧ Kp (fun _ => False) w w' := by
  have HF : Hid (∀ z, Calls Tryd.prog 4 #[.int .i64 1, .slice none 0 0, .bool true] z _) := fun z => moverFences_walk 1 none 0 0 [] true z (by decide) (Rb.nil _ _) (by omega) (by show _ ≤ _; decide)
  obtain ⟨cs, hcs⟩ : ∃ cs, cs = c.toList := ⟨_, rfl⟩
  obtain rfl : c = cs.toArray := by rw [hcs]
  have hln : cs.length = 24 := by simpa using hsz
  have kA : Kp (fun _ => False) w (w.alloc (.cells cs.toArray 45)) := (Kp.refl _ _).alloc _
  have HX : Hid (Lv (w.alloc (.cells cs.toArray 45)) w.heap.size cs) := Lv.new w cs.toArray 45
  have HLN : Hid (cs.length = 24) := hln
  clear hcs hsz _h hln
  go_enter Tryd.func5, Tryd.ntmps5
  go_wp2
  have s1 : (w.alloc (.cells cs.toArray 45)).heap.size = w.heap.size + 1 := by simp
  have s2 : ((w.alloc (.cells cs.toArray 45)).alloc (.cells zMov 60)).heap.size = w.heap.size + 2 := by simp
  have kB : Kp (fun _ => False) w (((w.alloc (.cells cs.toArray 45)).alloc (.cells zMov 60)).alloc (.cells #[.pointer none, .pointer (some ⟨w.heap.size + 1, 0, none⟩)] 34)) := (kA.alloc _).alloc _
  have lz : Lv (((w.alloc (.cells cs.toArray 45)).alloc (.cells zMov 60)).alloc (.cells #[.pointer none, .pointer (some ⟨w.heap.size + 1, 0, none⟩)] 34)) (w.heap.size + 1) zMov.toList := by
    have hh := Lv.new (w.alloc (.cells cs.toArray 45)) zMov 60
    rw [s1] at hh
    exact hh.keep ((Kp.refl (fun _ => False) _).alloc _) id
  have lp : Lv (((w.alloc (.cells cs.toArray 45)).alloc (.cells zMov 60)).alloc (.cells #[.pointer none, .pointer (some ⟨w.heap.size + 1, 0, none⟩)] 34)) (w.heap.size + 2) [.pointer none, .pointer (some ⟨w.heap.size + 1, 0, none⟩)] := by
    have hh := Lv.new ((w.alloc (.cells cs.toArray 45)).alloc (.cells zMov 60)) #[.pointer none, .pointer (some ⟨w.heap.size + 1, 0, none⟩)] 34
    rw [s2] at hh
    exact hh
  have lx : Lv (((w.alloc (.cells cs.toArray 45)).alloc (.cells zMov 60)).alloc (.cells #[.pointer none, .pointer (some ⟨w.heap.size + 1, 0, none⟩)] 34)) w.heap.size cs := HX.out.keep (((Kp.refl (fun _ => False) _).alloc _).alloc _) id
  obtain ⟨W0, hW0⟩ : ∃ x, x = (((w.alloc (.cells cs.toArray 45)).alloc (.cells zMov 60)).alloc (.cells #[.pointer none, .pointer (some ⟨w.heap.size + 1, 0, none⟩)] 34)) := ⟨_, rfl⟩
  rw [← hW0] at kB lz lp lx
  have HA : Hid (Kp (fun _ => False) w W0 ∧ Lv W0 (w.heap.size + 1) zMov.toList ∧ Lv W0 (w.heap.size + 2) [.pointer none, .pointer (some ⟨w.heap.size + 1, 0, none⟩)] ∧ Lv W0 w.heap.size cs) := ⟨kB, lz, lp, lx⟩
  have HW0 : Hid (W0 = (((w.alloc (.cells cs.toArray 45)).alloc (.cells zMov 60)).alloc (.cells #[.pointer none, .pointer (some ⟨w.heap.size + 1, 0, none⟩)] 34))) := hW0
  clear kA HX s1 s2 kB lz lp lx hW0
  obtain ⟨dM, hdM1, hdM2⟩ := dsMsg
  go_loopg [11] 2 (fun gk i wr => ∃ (k : Nat), k ≤ 2 ∧ gk = 2 - k ∧ i = .int .i64 k ∧ Hid (Kp (fun _ => False) W0 wr))
  case atStart => exact ⟨0, by omega, rfl, rfl, by rw [HW0.out]; exact Kp.refl _ _⟩
  case round =>
    obtain ⟨k, hk, rfl, rfl, HS⟩ := hrel
    have hk3 : k = 0 ∨ k = 1 ∨ k = 2 := by omega
    have ha := HA.out
    have HXr : Hid (Lv wr w.heap.size cs) := ha.2.2.2.keep HS.out id
    have lpr := ha.2.2.1.keep HS.out id
    have q0 := lpr.cell (j := 0) rfl
    have q1 := lpr.cell (j := 1) rfl
    have hz0 := (ha.2.1.keep HS.out id).cell (j := 0) rfl
    clear lpr ha
    rcases hk3 with rfl | rfl | rfl
    · have hN0 : Nm wr (.pointer none) := Or.inl rfl
      clear q1 hz0
      go_wp2_with (first
        | (go_at_call 15; refine (nphase _ _ hN0).mono ?_; rintro e y1 ⟨rfl, hy1⟩; subst hy1)
        | (go_at_call 24; refine (nasks _ ep _ hN0).mono ?_; rintro e y1 ⟨rfl, hy1⟩; subst hy1)
        | (go_at_call 19; refine (nshard _ _ hN0).mono ?_; rintro e y1 ⟨rfl, hy1⟩; subst hy1)
        | (refine wpList_ldw (by first | rfl | go_simp) 45 _ rfl w.heap.size 0 rfl cs dM HXr.out.r hdM1 hdM2 (by rw [szMsg, HLN.out]) ?_)
        | (go_at_call 16; refine (non _ cs.toArray _ hN0).mono ?_; rintro e y2 ⟨rfl, ky2⟩; have hN2 := hN0.keep ky2; have HK2 : Hid (Kp (fun _ => False) _ y2) := ky2)
        | (go_at_call 22; refine (nstored _ ep _ hN2).mono ?_; rintro e y1 ⟨rfl, hy1⟩; subst hy1)
        | (go_at_call 25; refine (nhave _ _ hN2).mono ?_; rintro e y1 ⟨rfl, hy1⟩; subst hy1)
        | (go_at_call 21; refine (nskip _ _ hN2).mono ?_; rintro e y1 ⟨rfl, hy1⟩; subst hy1)
        | (go_at_call 20; refine (nmove _ _ hN2).mono ?_; rintro e y3 ⟨rfl, ky3⟩; have HK3 : Hid (Kp (fun _ => False) _ y3) := ky3))
      go_roundg 1
      case rel => exact ⟨1, by omega, rfl, by go_num, (HS.out.trans HK2.out (fun _ _ e => e)).trans HK3.out (fun _ _ e => e)⟩
      case measure => omega
    · have hN0 : Nm wr (.pointer (some ⟨w.heap.size + 1, 0, none⟩)) := Or.inr ⟨_, rfl, hz0⟩
      clear q0 hz0
      go_wp2_with (first
        | (go_at_call 15; refine (nphase _ _ hN0).mono ?_; rintro e y1 ⟨rfl, hy1⟩; subst hy1)
        | (go_at_call 24; refine (nasks _ ep _ hN0).mono ?_; rintro e y1 ⟨rfl, hy1⟩; subst hy1)
        | (go_at_call 19; refine (nshard _ _ hN0).mono ?_; rintro e y1 ⟨rfl, hy1⟩; subst hy1)
        | (refine wpList_ldw (by first | rfl | go_simp) 45 _ rfl w.heap.size 0 rfl cs dM HXr.out.r hdM1 hdM2 (by rw [szMsg, HLN.out]) ?_)
        | (go_at_call 16; refine (non _ cs.toArray _ hN0).mono ?_; rintro e y2 ⟨rfl, ky2⟩; have hN2 := hN0.keep ky2; have HK2 : Hid (Kp (fun _ => False) _ y2) := ky2)
        | (go_at_call 22; refine (nstored _ ep _ hN2).mono ?_; rintro e y1 ⟨rfl, hy1⟩; subst hy1)
        | (go_at_call 25; refine (nhave _ _ hN2).mono ?_; rintro e y1 ⟨rfl, hy1⟩; subst hy1)
        | (go_at_call 21; refine (nskip _ _ hN2).mono ?_; rintro e y1 ⟨rfl, hy1⟩; subst hy1)
        | (go_at_call 20; refine (nmove _ _ hN2).mono ?_; rintro e y3 ⟨rfl, ky3⟩; have HK3 : Hid (Kp (fun _ => False) _ y3) := ky3))
      go_roundg 0
      case rel => exact ⟨2, by omega, rfl, by go_num, (HS.out.trans HK2.out (fun _ _ e => e)).trans HK3.out (fun _ _ e => e)⟩
      case measure => omega
    · clear q0 q1 hz0
      go_wp2_with (go_at_call 4; refine (HF.out _).mono ?_; rintro e y4 ⟨rfl, k4⟩)
      go_ret
      exact ⟨rfl, (HA.out.1.trans HS.out (fun _ _ e => e)).trans k4 (fun _ _ e => e)⟩
end Go.Proofs.YtmncocmeafcpfaaDoor
