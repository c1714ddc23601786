/- The reference's plate: Write, Copy, Fail, Of, New. -/
import Derived.Test.YtippipeebkkghaaGreatDoorRq
import Derived.Deep.RegionHeld3
namespace Go.Proofs.YtippipeebkkghaaGreatDoor
open Go.RowKit Go.Deep Go.Maps

theorem kp_setR (w : World) (t i : Nat) (v : Value) : Kp (fun z => z = t) w (w.setCell ⟨t, i, none⟩ v) := (Kp.refl (fun z => z = t) w).setCell (a := ⟨t, i, none⟩) (fun _ => rfl) _
theorem Rp.setW {w w' : World} {x tb tw td n : Nat} {Bf Wf : Nat → List Nat} {df : Nat → Bool} {Y : Nat → Prop} (h : Rp w x tb tw td n Bf Wf df Y) {i : Nat} {v : Value} {xs : List Nat} (hw : w' = w.setCell ⟨tw, i, none⟩ v) (hv : ∃ bb o c, v = .slice (some ⟨bb, o, none⟩) 64 c ∧ 64 ≤ c ∧ Rb w (some ⟨bb, o, none⟩) 64 xs ∧ ¬ Xs x tb tw td Y bb) :
    Rp w' x tb tw td n Bf (fun j => if j = i then xs else Wf j) df Y := by
  have k : Kp (fun z => z = tw) w w' := by rw [hw]; exact kp_setR w tw i v
  obtain ⟨a0, b0, e0⟩ := h.c0
  obtain ⟨a1, b1, e1⟩ := h.c1
  obtain ⟨a2, b2, e2⟩ := h.c2
  obtain ⟨cp, f, b3, hd⟩ := h.D
  obtain ⟨n1, n2, n3, n4, n5, n6⟩ := h.ne
  exact ⟨⟨a0, b0, k.cellv e0 n2⟩, ⟨a1, b1, k.cellv e1 n2⟩, ⟨a2, b2, k.cellv e2 n2⟩, k.cellv h.c3 n2, fun j => by rw [World.frozen?_of_block (w := w) (k.block x h.lt.1 n2)]; exact h.fz j, h.B.keep k (fun z e => Or.inr (Or.inr (Or.inl e))) n4, h.W.put (Or.inr (Or.inr (Or.inl rfl))) hw hv, ⟨cp, f, b3, k.row hd (fun e => n6 e.symm)⟩, h.ne, h.n1, h.n2⟩
theorem Rp.setB {w w' : World} {x tb tw td n : Nat} {Bf Wf : Nat → List Nat} {df : Nat → Bool} {Y : Nat → Prop} (h : Rp w x tb tw td n Bf Wf df Y) {i : Nat} {v : Value} {xs : List Nat} (hw : w' = w.setCell ⟨tb, i, none⟩ v) (hv : ∃ bb o c, v = .slice (some ⟨bb, o, none⟩) 64 c ∧ 64 ≤ c ∧ Rb w (some ⟨bb, o, none⟩) 64 xs ∧ ¬ Xs x tb tw td Y bb) :
    Rp w' x tb tw td n (fun j => if j = i then xs else Bf j) Wf df Y := by
  have k : Kp (fun z => z = tb) w w' := by rw [hw]; exact kp_setR w tb i v
  obtain ⟨a0, b0, e0⟩ := h.c0
  obtain ⟨a1, b1, e1⟩ := h.c1
  obtain ⟨a2, b2, e2⟩ := h.c2
  obtain ⟨cp, f, b3, hd⟩ := h.D
  obtain ⟨n1, n2, n3, n4, n5, n6⟩ := h.ne
  exact ⟨⟨a0, b0, k.cellv e0 n1⟩, ⟨a1, b1, k.cellv e1 n1⟩, ⟨a2, b2, k.cellv e2 n1⟩, k.cellv h.c3 n1, fun j => by rw [World.frozen?_of_block (w := w) (k.block x h.lt.1 n1)]; exact h.fz j, h.B.put (Or.inr (Or.inl rfl)) hw hv, h.W.keep k (fun z e => Or.inr (Or.inl e)) (fun e => n4 e.symm), ⟨cp, f, b3, k.row hd (fun e => n5 e.symm)⟩, h.ne, h.n1, h.n2⟩
theorem Rp.setD {w w' : World} {x tb tw td n : Nat} {Bf Wf : Nat → List Nat} {df : Nat → Bool} {Y : Nat → Prop} (h : Rp w x tb tw td n Bf Wf df Y) {i : Nat} {b : Bool} (hi : i < n) (hw : w' = w.setCell ⟨td, i, none⟩ (.bool b)) :
    Rp w' x tb tw td n Bf Wf (fun j => if j = i then b else df j) Y := by
  have k : Kp (fun z => z = td) w w' := by rw [hw]; exact kp_setR w td i _
  obtain ⟨a0, b0, e0⟩ := h.c0
  obtain ⟨a1, b1, e1⟩ := h.c1
  obtain ⟨a2, b2, e2⟩ := h.c2
  obtain ⟨cp, f, b3, hd⟩ := h.D
  obtain ⟨n1, n2, n3, n4, n5, n6⟩ := h.ne
  refine ⟨⟨a0, b0, k.cellv e0 n3⟩, ⟨a1, b1, k.cellv e1 n3⟩, ⟨a2, b2, k.cellv e2 n3⟩, k.cellv h.c3 n3, fun j => by rw [World.frozen?_of_block (w := w) (k.block x h.lt.1 n3)]; exact h.fz j, h.B.keep k (fun z e => Or.inr (Or.inr (Or.inr (Or.inl e)))) n5, h.W.keep k (fun z e => Or.inr (Or.inr (Or.inr (Or.inl e)))) n6, ⟨cp, f, b3, ?_⟩, h.ne, h.n1, h.n2⟩
  rw [hw]
  refine (hd.set i (.bool b)).congr (fun j hj => ?_)
  by_cases e : j = i
  · rw [if_pos e, if_pos (by omega), if_pos e]
  · rw [if_neg e, if_neg e]

set_option maxRecDepth 100000 in
set_option maxHeartbeats 1600000 in
theorem refWrite_ok {w : World} {x tb tw td n : Nat} {Bf Wf : Nat → List Nat} {df : Nat → Bool} {Y : Nat → Prop} (h : Rp w x tb tw td n Bf Wf df Y) (hY : ∀ z, Y z → z < w.heap.size) (i : Nat) (hi : (i : Int) < (n : Int)) (p : Option Addr) (c : Nat) (xs : List Nat) (hx : Rb w p 64 xs) :
    Calls Tryz.prog 159 #[.pointer (some ⟨x, 0, none⟩), .int .i64 (i : Int), .slice p 64 c] w fun e w' => e = .returned (.int .i64 0) ∧ Kp (fun z => z = tw ∨ z = td) w w' ∧ Rp w' x tb tw td n Bf (fun j => if j = i then xs else Wf j) (fun j => if j = i then true else df j) Y := by
  have H : Hid (Calls _ _ _ w _) := there_ok h i
  have hd : decide (0 ≤ (i : Int) ∧ (i : Int) < (n : Int)) = true := by simp; omega
  rw [hd] at H
  have c3 := h.c3
  obtain ⟨cw, hcw, c1⟩ := h.c1
  obtain ⟨cd, hcd, c2⟩ := h.c2
  have HO : Hid (∀ w', Kp (fun _ => False) w w' → ∀ c, Calls _ _ #[.slice _ _ c] w' _) := fun w' k c => own_ok p 64 c xs w' (hx.keep0 k) (show 64 ≤ 140737488355328 by omega)
  obtain ⟨n1, n2, n3, n4, n5, n6⟩ := h.ne
  obtain ⟨cp, f, hcp, hD⟩ := h.D
  have HX : Hid (∀ y ∈ xs, y < 256) := hx.byte
  have HXL : Hid (xs.length = 64) := hx.len
  obtain ⟨hfW, bb, o, cc, tcW, _⟩ := h.W.at (i := i) (by omega)
  have tcD := hD.cell (i := i) (by omega)
  rw [if_pos (show i < n by omega)] at tcD
  have hfD := hD.frozen i
  have HP : Hid (Rp w x tb tw td n Bf Wf df Y) := h
  have HZ : Hid (∀ w', Kp (fun _ => False) w w' → w'.frozen? ⟨tw, i, none⟩ = false ∧ w'.frozen? ⟨td, i, none⟩ = false) := fun w' k => ⟨by rw [World.frozen?_of_block (w := w) (k.block tw h.lt.2.2.1 id)]; exact hfW, by rw [World.frozen?_of_block (w := w) (k.block td h.lt.2.2.2 id)]; exact hfD⟩
  have m1 : ¬ tw = x := fun e => n2 e.symm
  have m2 : ¬ td = x := fun e => n3 e.symm
  have m3 : ¬ td = tw := fun e => n6 e.symm
  clear h hd hx hD
  go_enter Tryz.func159, Tryz.ntmps159
  go_wp2_with (go_at_call 200; refine H.out.mono ?_; rintro e w' ⟨rfl, hw⟩; obtain rfl := hw.symm)
  have kd : Kp (fun _ => False) w w.drew := (Kp.refl _ _).drew
  go_region_held3 (fun z => z.cell? ⟨x, 1, none⟩ = some (.slice (some ⟨tw, 0, none⟩) n cw) ∧ z.cell? ⟨x, 2, none⟩ = some (.slice (some ⟨td, 0, none⟩) n cd)) (go_keep)
    (first
      | (go_at_call 111; refine (HO.out _ kd _).mono ?_; rintro e w1 ⟨v1, rfl, k1, o1⟩; obtain ⟨p1, cc1, ev1, hcc1, rb1, hp1⟩ := o1.rb HX.out; rw [HXL.out] at ev1 rb1 hcc1; subst ev1; have k01 := kd.trans k1 (fun _ _ e => e); have x1 := k01.cellv c1 id; have x2 := k01.cellv c2 id; have y1 := k01.cellv tcW id; have y2 := k01.cellv tcD id; have z1 := (HZ.out _ k01).1; have z2 := (HZ.out _ k01).2))
  clear x1 x2 y1 y2 z1 z2 o1
  go_wp2
  go_ret
  have h1 := HP.out.keep k01 (fun z e => e.elim) id id id id
  obtain ⟨g1, o1, rfl, _⟩ := rb1.pt (by omega)
  have hg1 := (hp1 _ rfl).1
  have hlt := HP.out.lt
  have hg1' : w.heap.size ≤ g1 := hg1
  have h2 := h1.setW (i := i) (xs := xs) rfl ⟨g1, o1, cc1, rfl, hcc1, rb1, fun e => by rcases e with e | e | e | e | e; all_goals first | omega | (have := hY _ e; omega)⟩
  have h3 := h2.setD (i := i) (b := true) (by omega) rfl
  refine ⟨rfl, ?_, h3⟩
  exact ((k01.mono (S' := fun z => z = tw ∨ z = td) (fun _ _ e => e.elim)).trans (kp_setR w1 tw i _) (fun _ _ e => Or.inl e)).trans (kp_setR _ td i _) (fun _ _ e => Or.inr e)

set_option maxRecDepth 100000 in
set_option maxHeartbeats 800000 in
theorem refWrite_bad {w : World} {x tb tw td n : Nat} {Bf Wf : Nat → List Nat} {df : Nat → Bool} {Y : Nat → Prop} (h : Rp w x tb tw td n Bf Wf df Y) (i : Int) (p : Option Addr) (l c : Nat) (hb : ¬ (0 ≤ i ∧ i < (n : Int) ∧ l = 64)) :
    Calls Tryz.prog 159 #[.pointer (some ⟨x, 0, none⟩), .int .i64 i, .slice p l c] w fun e w' => e = .returned (.int .i64 1) ∧ w' = w := by
  have H : Hid (Calls _ _ _ w _) := there_ok h i
  have c3 := h.c3
  clear h
  by_cases hi : 0 ≤ i ∧ i < (n : Int)
  · rw [decide_eq_true hi] at H
    have hl : ((l : Int) == 64) = false := by
      rw [beq_eq_false_iff_ne]
      intro e
      exact hb ⟨hi.1, hi.2, by omega⟩
    have hl2 : ¬ ((l : Int) = 64) := by rw [beq_eq_false_iff_ne] at hl; exact hl
    have hl3 : ¬ (l = 64) := by omega
    clear hi hb
    go_enter Tryz.func159, Tryz.ntmps159
    go_wp2_with (go_at_call 200; refine H.out.mono ?_; rintro e w' ⟨rfl, hw⟩; obtain rfl := hw.symm)
    go_ret
    exact ⟨rfl, rfl⟩
  · rw [decide_eq_false hi] at H
    clear hi hb
    go_enter Tryz.func159, Tryz.ntmps159
    go_wp2_with (go_at_call 200; refine H.out.mono ?_; rintro e w' ⟨rfl, hw⟩; obtain rfl := hw.symm)
    go_ret
    exact ⟨rfl, rfl⟩

set_option maxRecDepth 100000 in
set_option maxHeartbeats 800000 in
theorem write_bad {w : World} {b d m n q : Nat} {dur : List Nat} {T : Nat → Option (List Nat)} (h : Pt w b d m n q dur T) (i : Int) (p : Option Addr) (l c : Nat) (hb : ¬ (0 ≤ i ∧ i < (n : Int) ∧ l = 64)) :
    Calls Tryz.prog 206 #[.pointer (some ⟨b, 0, none⟩), .int .i64 i, .slice p l c] w fun e w' => e = .returned (.int .i64 1) ∧ w' = w := by
  by_cases hi : 0 ≤ i ∧ i < (n : Int)
  · obtain ⟨k, rfl⟩ := Int.eq_ofNat_of_zero_le hi.1
    have H : Hid (Calls _ _ _ w _) := has_ok h k hi.2
    have hl2 : ¬ ((l : Int) = 64) := fun e => hb ⟨hi.1, hi.2, by omega⟩
    have hl3 : ¬ (l = 64) := by omega
    clear hi hb h
    go_enter Tryz.func206, Tryz.ntmps206
    go_wp2_with (go_at_call 212; refine H.out.mono ?_; rintro e w' ⟨rfl, hw⟩; obtain rfl := hw.symm)
    go_ret
    exact ⟨rfl, rfl⟩
  · have H : Hid (Calls _ _ _ w _) := has_out h i hi
    clear hi hb h
    go_enter Tryz.func206, Tryz.ntmps206
    go_wp2_with (go_at_call 212; refine H.out.mono ?_; rintro e w' ⟨rfl, hw⟩; obtain rfl := hw.symm)
    go_ret
    exact ⟨rfl, rfl⟩

/-- a reference's plate that has failed: its sectors are empty, in a row that Y does not name -/
def Rdead (w : World) (x n : Nat) (Y : Nat → Prop) : Prop := ∃ t c p2 c2, n ≤ c ∧ ¬ Y t ∧ w.cell? ⟨x, 0, none⟩ = some (.slice none 0 0) ∧ w.cell? ⟨x, 1, none⟩ = some (.slice (some ⟨t, 0, none⟩) n c) ∧ w.cell? ⟨x, 2, none⟩ = some (.slice p2 0 c2) ∧ w.cell? ⟨x, 3, none⟩ = some (.bool true) ∧ ∀ r, r < n → ∃ pr ck, w.cell? ⟨t, r, none⟩ = some (.slice pr 0 ck)

/-- a reference's plate that is made -/
theorem Rp.made {w0 w1 w2 wz w' : World} {x t1 t2 td n c1 c2 cd a1 a2 : Nat} {xs1 xs2 : List Value} {N N' : Nat → List Nat} {df : Nat → Bool} {Y : Nat → Prop} (hY : ∀ z, Y z → z < w0.heap.size) (hn1 : 1 ≤ n) (hn2 : n ≤ 8192) (hN : ∀ r, r < n → (N r).length = 64) (hN' : ∀ r, r < n → (N' r).length = 64)
    (g1 : Gt w1 a1 (.slice (some ⟨t1, 0, none⟩) n c1) n xs1 N) (g2 : Gt w2 a2 (.slice (some ⟨t2, 0, none⟩) n c2) n xs2 N') (k1 : Kp (fun _ => False) w1 wz) (k2 : Kp (fun _ => False) w2 wz)
    (hd : ∃ (cp : Nat) (f : Nat → Value), n ≤ cp ∧ wz.rowIs td 4 cp (fun j => if j < n then .bool (df j) else f j)) (hcd : n ≤ cd) (h01 : w0.heap.size ≤ a1) (h12 : w1.heap.size ≤ a2) (hx : x = wz.heap.size) (hcase : td < a1 ∨ (w1.heap.size ≤ td ∧ td < a2) ∨ w2.heap.size ≤ td)
    (hw' : w' = wz.alloc (.cells #[.slice (some ⟨t1, 0, none⟩) n c1, .slice (some ⟨t2, 0, none⟩) n c2, .slice (some ⟨td, 0, none⟩) n cd, .bool false] 156)) :
    Rp w' x t1 t2 td n N N' df Y := by
  subst hx
  obtain ⟨t1', c1', e1, hc1, hb1, hl1, hT1⟩ := Tr.of_gt (X := Xs wz.heap.size t1 t2 td Y) g1 (by omega) hN
  obtain ⟨t2', c2', e2, hc2, hb2, hl2, hT2⟩ := Tr.of_gt (X := Xs wz.heap.size t1 t2 td Y) g2 (by omega) hN'
  simp only [Value.slice.injEq, Option.some.injEq, Addr.mk.injEq, and_true, true_and] at e1 e2
  obtain ⟨rfl, rfl⟩ := e1
  obtain ⟨rfl, rfl⟩ := e2
  obtain ⟨cp, f, hcp, hd⟩ := hd
  have hz1 := k1.size
  have hz2 := k2.size
  have htl := hd.lt
  have kz : Kp (fun _ => False) wz w' := by rw [hw']; exact (Kp.refl _ _).alloc _
  have T1 := hT1 (fun z h1 h2 hX => by rcases hX with e | e | e | e | e; all_goals first | omega | (have := hY _ e; omega))
  have T2 := hT2 (fun z h1 h2 hX => by rcases hX with e | e | e | e | e; all_goals first | omega | (have := hY _ e; omega))
  have hh := heap_alloc_new wz (.cells #[.slice (some ⟨t1, 0, none⟩) n c1, .slice (some ⟨t2, 0, none⟩) n c2, .slice (some ⟨td, 0, none⟩) n cd, .bool false] 156)
  rw [← hw'] at hh
  have cc : ∀ j v, (#[.slice (some ⟨t1, 0, none⟩) n c1, .slice (some ⟨t2, 0, none⟩) n c2, .slice (some ⟨td, 0, none⟩) n cd, .bool false] : Array Value)[j]? = some v → w'.cell? ⟨wz.heap.size, j, none⟩ = some v := fun j v hv => by
    rw [cell_of_row _ _ j _ _ (0, 0) hh]
    exact hv
  exact ⟨⟨c1, hc1, cc 0 _ rfl⟩, ⟨c2, hc2, cc 1 _ rfl⟩, ⟨cd, hcd, cc 2 _ rfl⟩, cc 3 _ rfl, fun j => frozen_of_row _ _ _ _ _ hh, ((T1.keep k1 (fun _ e => e.elim) id)).keep kz (fun _ e => e.elim) id, ((T2.keep k2 (fun _ e => e.elim) id)).keep kz (fun _ e => e.elim) id, ⟨cp, f, hcp, kz.row hd id⟩, ⟨by omega, by omega, by omega, by omega, by omega, by omega⟩, hn1, hn2⟩

theorem info_bool : (Tryz.prog.info? 4).map (fun i => (i.zero, i.size, i.bytes)) = some (some (.bool false), 1, 1) := by kernel_rfl

set_option maxRecDepth 100000 in
set_option maxHeartbeats 1600000 in
theorem refOf_ok {w : World} {p : Option Addr} {n c : Nat} {N : Nat → List Nat} {Y : Nat → Prop} (hY : ∀ z, Y z → z < w.heap.size) (hn1 : 1 ≤ (n : Int)) (hn2 : (n : Int) ≤ 8192) (hr : ∀ r, r < n → ∃ t o, p = some ⟨t, o, none⟩ ∧ ∃ pr ck, w.cell? ⟨t, o + r, none⟩ = some (.slice pr 64 ck) ∧ Rb w pr 64 (N r)) :
    Calls Tryz.prog 40 #[.slice p n c] w fun e w' => ∃ x tb tw td, e = .returned (.tuple #[.pointer (some ⟨x, 0, none⟩), .int .i64 0]) ∧ Kp (fun _ => False) w w' ∧ w.heap.size ≤ x ∧ w.heap.size ≤ tb ∧ w.heap.size ≤ tw ∧ w.heap.size ≤ td ∧ Rp w' x tb tw td n N N (fun _ => false) Y := by
  have HR : Hid _ := hr
  have HA : Hid (∀ w', Kp (fun _ => False) w w' → Calls _ _ _ w' _) := fun w' k => all_ok (w := w') (p := p) (n := n) (c := c) (N := N) (by omega) (fun r hr' => by
    obtain ⟨t, o, e, pr, ck, x1, x2⟩ := hr r hr'
    exact ⟨t, o, e, pr, 64, ck, k.cellv x1 id, x2.keep0 k, by omega⟩)
  have HL : Hid (∀ r, r < n → (N r).length = 64) := fun r hr' => by obtain ⟨t, o, e, pr, ck, x1, x2⟩ := hr r hr'; exact x2.len
  have hmk := run_make_row' (P := Tryz.prog) 154 4 (.bool false) 1 Tryz.underlying154 (by kernel_rfl) rfl .i64 .i64 n (by omega) (by omega)
  clear hr
  go_enter Tryz.func40, Tryz.ntmps40
  go_wp2
  go_loopg [16] n (fun gk i wr => ∃ k : Nat, k ≤ n ∧ gk = n - k ∧ i = .int .i64 k ∧ wr = w)
  case atStart => exact ⟨0, Nat.zero_le _, rfl, rfl, rfl⟩
  case round =>
    obtain ⟨k, hk, rfl, rfl, rfl⟩ := hrel
    by_cases hlt : (k : Int) < (n : Int)
    · obtain ⟨t, o, rfl, pr, ck, hc, hRb⟩ := HR.out k (by omega)
      clear hRb HR HA HL
      go_wp2
      go_roundg (n - (k + 1))
      case rel => exact ⟨k + 1, by omega, rfl, by go_num, rfl⟩
      case measure => omega
    · have e : n = k := by omega
      subst e
      clear HR hk hlt
      have hn0 : 0 < n := by omega
      have HTr : Hid (∀ u u' : World, Kp (fun _ => False) wr u → Kp (fun _ => False) u u' → Kp (fun _ => False) wr u') := fun u u' h1 h2 => h1.trans h2 (fun _ _ e => e)
      obtain ⟨X0, hX0⟩ : ∃ X : Nat → Prop, X = fun _ => False := ⟨_, rfl⟩
      go_wp2_with fail
      obtain ⟨w0, rfl⟩ : ∃ z, z = wr := ⟨_, rfl⟩
      go_region_held3 (fun z => Kp (fun _ => False) w0 z) (first | exact (Kp.refl _ _).drew | exact kw2 | exact kw1 | (refine Kp.alloc ?_ _; assumption) | (refine Kp.alloc ?_ _; exact kw2) | (refine Kp.alloc ?_ _; exact kw1) | exact ((Kp.refl _ _).alloc _).drew | exact ((Kp.refl _ _).drew).alloc _)
        (first
          | (have kx := kw1
             go_at_call 69
             refine (HA.out _ ?_).mono ?_
             · first
               | exact kw1
               | exact kw1.alloc _
               | assumption
             rintro e w2 ⟨v2, xs2, rfl, k2, g2⟩
             obtain ⟨t2, c2, rfl, hc2, hb2, hl2, hT2⟩ := Tr.of_gt (X := X0) g2 hn0 HL.out
             have kw2 := HTr.out _ _ (by first | exact kw1 | exact kw1.alloc _ | assumption) k2)
          | (go_at_call 69
             refine (HA.out _ ?_).mono ?_
             · first
               | exact (Kp.refl _ _).drew
               | exact ((Kp.refl _ _).alloc _).drew
               | exact ((Kp.refl _ _).drew).alloc _
               | assumption
             rintro e w1 ⟨v1, xs1, rfl, k1, g1⟩
             obtain ⟨t1, c1, rfl, hc1, hb1, hl1, hT1⟩ := Tr.of_gt (X := X0) g1 hn0 HL.out
             have kw1 := HTr.out _ _ (by first | exact (Kp.refl _ _).drew | exact ((Kp.refl _ _).alloc _).drew | exact ((Kp.refl _ _).drew).alloc _ | assumption) k1))
      all_goals
        have hz1 := kw1.size
        have hz2 := kw2.size
        have hz12 := k2.size
        go_wp2
        go_ret2
        first
          | (refine ⟨w2.heap.size + 1, t1, t2, w2.heap.size, rfl, ?_, by omega, ?_, by omega, by omega, ?_⟩
             · assumption
             · exact hb1
             refine Rp.made (w0 := w0) (wz := w2.alloc (.cells (madeCells #[.bool false] n) 4)) hY (by omega) (by omega) HL.out HL.out g1 g2 (k2.alloc _) ((Kp.refl _ _).alloc _) ⟨n, fun _ => .bool false, Nat.le_refl _, (World.rowIs_made w2 (.bool false) n 4).congr (fun j _ => by split <;> rfl)⟩ (Nat.le_refl _) (Nat.le_refl _) (Nat.le_refl _) (by simp) (Or.inr (Or.inr (Nat.le_refl _))) rfl)
          | (refine ⟨w2.heap.size, t1, t2, w1.heap.size, rfl, ?_, by omega, ?_, ?_, by omega, ?_⟩
             · assumption
             · exact hb1
             · exact Nat.le_trans (by simp; omega) hb2
             refine Rp.made (w0 := w0) (wz := w2) hY (by omega) (by omega) HL.out HL.out g1 g2 (((Kp.refl _ _).alloc _).trans k2 (fun _ _ e => e)) (Kp.refl _ _) ⟨n, fun _ => .bool false, Nat.le_refl _, (k2.row (World.rowIs_made w1 (.bool false) n 4) id).congr (fun j _ => by split <;> rfl)⟩ (Nat.le_refl _) (Nat.le_refl _) (by simp) rfl (Or.inr (Or.inl ⟨Nat.le_refl _, by simp⟩)) rfl)
          | (refine ⟨w2.heap.size, t1, t2, w0.heap.size, rfl, ?_, by omega, ?_, by omega, by omega, ?_⟩
             · assumption
             · exact Nat.le_trans (by simp [World.drew]) hb1
             refine Rp.made (w0 := w0) (wz := w2) hY (by omega) (by omega) HL.out HL.out g1 g2 k2 (Kp.refl _ _) ⟨n, fun _ => .bool false, Nat.le_refl _, (k2.row (k1.row (World.rowIs_made w0 (.bool false) n 4).drew id) id).congr (fun j _ => by split <;> rfl)⟩ (Nat.le_refl _) (by simp [World.drew]) (Nat.le_refl _) rfl (Or.inl (by simp [World.drew])) rfl)
end Go.Proofs.YtippipeebkkghaaGreatDoor
