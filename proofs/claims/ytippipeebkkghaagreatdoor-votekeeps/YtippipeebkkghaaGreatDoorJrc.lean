/- recordOf of what a shelf wrote (laid by scripts/mkjrc.py). -/
import Derived.Test.YtippipeebkkghaaGreatDoorJrb
namespace Go.Proofs.YtippipeebkkghaaGreatDoor
set_option linter.unusedVariables false
set_option linter.unusedSimpArgs false
open Go.RowKit Go.Deep Go.Maps

/-- a record as a shelf writes it: what it does not write is nought -/
structure Cn (r : Rc) : Prop where
  g : GoodR r
  i4 : r.k = 4 → r.i = 0
  e3 : r.k ≠ 3 → r.e = 0
  b1 : r.k = 1 → 1 ≤ r.b.length

set_option maxRecDepth 100000 in
set_option maxHeartbeats 1600000 in
theorem rmay_ok (r : Rc) (p : Option Addr) (cp : Nat) (w : World) (hg : Cn r) :
    Calls Tryz.prog 98 #[rcV r p cp] w fun e w' => e = .returned (.bool true) ∧ Kp (fun _ => False) w w' := by
  obtain ⟨k, n, i, e, b⟩ := r
  have h1 : 1 ≤ k ∧ k ≤ 4 := hg.g.k1
  have h2 : b.length ≤ 1980 := hg.g.bl
  have h3 : k = 2 ∨ k = 3 → b = [] := hg.g.b23
  have h4 : k = 1 → 1 ≤ b.length := hg.b1
  obtain ⟨w1, hw1⟩ : ∃ y, y = w.alloc (.cells #[.int .i64 (k : Int), .int .i64 (n : Int), .int .i64 (i : Int), .int .i64 (e : Int), .slice p b.length cp] 122) := ⟨_, rfl⟩
  obtain ⟨w2, hw2⟩ : ∃ y, y = w1.alloc (.cells #[.int .i64 (n : Int), .int .i64 (i : Int), .int .i64 (e : Int)] 3) := ⟨_, rfl⟩
  have k1 : Kp (fun _ => False) w w1 := by rw [hw1]; exact (Kp.refl _ _).alloc _
  have k2 : Kp (fun _ => False) w1 w2 := by rw [hw2]; exact (Kp.refl _ _).alloc _
  have hz1 : w1.heap.size = w.heap.size + 1 := by rw [hw1]; simp
  have l1 : Lv w2 w.heap.size [.int .i64 (k : Int), .int .i64 (n : Int), .int .i64 (i : Int), .int .i64 (e : Int), .slice p b.length cp] := (by rw [hw1]; exact Lv.new w _ _ : Lv w1 w.heap.size _).keep k2 id
  have HA : Hid (Calls Tryz.prog 80 #[.slice (some ⟨w.heap.size + 1, 0, none⟩) 3 3] w2 fun e w' => e = .returned (.bool true) ∧ w' = w2) := by
    have h9 := areNumbers_ok (some ⟨w.heap.size + 1, 0, none⟩) 3 3 [(n : Int), (i : Int), (e : Int)] w2 (by rw [hw2, ← hz1]; exact rz3 w1 _ _ _ _) rfl (by omega)
    rw [upTo3 hg.g.n1 hg.g.i1 hg.g.e1] at h9
    exact h9
  have HK : Hid (Kp (fun _ => False) w w2) := k1.trans k2 (fun _ _ e => e)
  have c0 := l1.cell (j := 0) rfl
  have c4 := l1.cell (j := 4) rfl
  obtain ⟨N, hN⟩ : ∃ N, N = b.length := ⟨_, rfl⟩
  have hw : (w.alloc (.cells #[.int .i64 (k : Int), .int .i64 (n : Int), .int .i64 (i : Int), .int .i64 (e : Int), .slice p N cp] 122)).alloc (.cells #[.int .i64 (n : Int), .int .i64 (i : Int), .int .i64 (e : Int)] 3) = w2 := by rw [hw2, hw1, hN]
  have h5 : ¬ (N : Int) > 1980 := by omega
  have h6 : k = 2 ∨ k = 3 → (N : Int) = 0 := fun h => by rw [hN, h3 h]; rfl
  have h7 : k = 1 → (N : Int) > 0 := fun h => by have := h4 h; omega
  have h8 : k = 1 ∨ k = 2 ∨ k = 3 ∨ k = 4 := by omega
  rw [← hN] at c4
  simp only [rcV]
  rw [← hN]
  clear hw1 hw2 k1 k2 hz1 l1 h1 h2 h3 h4 hg hN
  rcases h8 with rfl | rfl | rfl | rfl
  · have h9 := h7 rfl
    clear h6 h7
    go_enter Tryz.func98, Tryz.ntmps98
    go_wp2_with fail
    rw [show ((1 : Nat) : Int) = 1 from rfl] at *
    rw [hw]
    clear hw
    refine HA.out.mono ?_
    rintro e9 w9 ⟨rfl, hw9⟩
    have hw8 := hw9.symm
    subst hw8
    clear hw9 HA
    go_wp2
    go_ret
    exact ⟨by show Ending.returned (Value.bool (decide (0 < N))) = _; rw [decide_eq_true (by omega)], HK.out⟩
  · have h9 := h6 (Or.inl rfl)
    clear h6 h7
    go_enter Tryz.func98, Tryz.ntmps98
    go_wp2_with fail
    rw [show ((2 : Nat) : Int) = 2 from rfl] at *
    rw [hw]
    clear hw
    refine HA.out.mono ?_
    rintro e9 w9 ⟨rfl, hw9⟩
    have hw8 := hw9.symm
    subst hw8
    clear hw9 HA
    go_wp2
    go_ret
    exact ⟨rfl, HK.out⟩
  · have h9 := h6 (Or.inr rfl)
    clear h6 h7
    go_enter Tryz.func98, Tryz.ntmps98
    go_wp2_with fail
    rw [show ((3 : Nat) : Int) = 3 from rfl] at *
    rw [hw]
    clear hw
    refine HA.out.mono ?_
    rintro e9 w9 ⟨rfl, hw9⟩
    have hw8 := hw9.symm
    subst hw8
    clear hw9 HA
    go_wp2
    go_ret
    exact ⟨rfl, HK.out⟩
  · clear h6 h7
    go_enter Tryz.func98, Tryz.ntmps98
    go_wp2_with fail
    rw [show ((4 : Nat) : Int) = 4 from rfl] at *
    rw [hw]
    clear hw
    refine HA.out.mono ?_
    rintro e9 w9 ⟨rfl, hw9⟩
    have hw8 := hw9.symm
    subst hw8
    clear hw9 HA
    go_wp2
    go_ret
    exact ⟨rfl, HK.out⟩

def zr5 : List Value := [.int .i64 0, .int .i64 0, .int .i64 0, .int .i64 0, .slice none 0 0]
/-- recordOf under way: the cursor at r4, the record at q5, the result at q2 -/
structure RO (w u : World) (q2 r4 q5 : Nat) (rest : List Nat) (cs : List Value) : Prop where
  c : Cq (fun b => b < w.heap.size) u r4 rest
  l5 : Lv u q5 cs
  l2 : Lv u q2 zr5
  k : Kp (fun _ => False) w u
  o : w.heap.size ≤ q2 ∧ w.heap.size ≤ r4 ∧ w.heap.size ≤ q5 ∧ q2 ≠ r4 ∧ q2 ≠ q5 ∧ r4 ≠ q5
theorem RO.call {w u u' : World} {q2 r4 q5 : Nat} {rest rest' : List Nat} {cs : List Value} (x : RO w u q2 r4 q5 rest cs) (k : Kp (fun b => b = r4) u u') (c : Cq (fun b => b < w.heap.size) u' r4 rest') : RO w u' q2 r4 q5 rest' cs := by
  have o := x.o
  exact ⟨c, x.l5.keep k (fun e => o.2.2.2.2.2 e.symm), x.l2.keep k (fun e => o.2.2.2.1 e), x.k.trans k (fun b hb e => by omega), o⟩
theorem RO.keep0 {w u u' : World} {q2 r4 q5 : Nat} {rest : List Nat} {cs : List Value} (x : RO w u q2 r4 q5 rest cs) (k : Kp (fun _ => False) u u') : RO w u' q2 r4 q5 rest cs :=
  ⟨x.c.keep0 k, x.l5.keep k id, x.l2.keep k id, x.k.trans k (fun _ _ e => e), x.o⟩
theorem RO.store {w u : World} {q2 r4 q5 : Nat} {rest : List Nat} {cs : List Value} (x : RO w u q2 r4 q5 rest cs) (j : Nat) (v : Value) (hj : j < cs.length) : RO w (u.setCell ⟨q5, j, none⟩ v) q2 r4 q5 rest (cs.take j ++ [v] ++ cs.drop (j + 1)) := by
  have o := x.o
  have k1 : Kp (fun b => b = q5) u (u.setCell ⟨q5, j, none⟩ v) := by show Kp _ _ _; exact (Kp.refl (fun b => b = q5) u).setCell (fun _ => rfl) _
  exact ⟨x.c.keep k1 (fun e => o.2.2.2.2.2 e) (fun b hb e => by omega), x.l5.set1 j v hj, x.l2.keep k1 (fun e => o.2.2.2.2.1 e), x.k.trans k1 (fun b hb e => by omega), o⟩

/-- what recordOf's drawn region asks -/
theorem ro_hc {w y : World} {q2 r4 q5 : Nat} {r : Rc} {p pc : Option Addr} {c cc L : Nat} (hg : Cn r) (hs : Rb w p L (wrS r)) (x : RO w y q2 r4 q5 r.b [.int .i64 (r.k : Int), .int .i64 (r.n : Int), .int .i64 (r.i : Int), .int .i64 (r.e : Int), .slice pc r.b.length cc]) (hb : Rb y pc r.b.length r.b) (hpq : ∀ x, pc = some x → ¬ x.block = q2) :
    (y.drew.cell? ⟨q5, 0, none⟩ = some (.int .i64 (r.k : Int)) ∧ y.drew.cell? ⟨q5, 1, none⟩ = some (.int .i64 (r.n : Int)) ∧ y.drew.cell? ⟨q5, 2, none⟩ = some (.int .i64 (r.i : Int)) ∧ y.drew.cell? ⟨q5, 3, none⟩ = some (.int .i64 (r.e : Int)) ∧ y.drew.cell? ⟨q5, 4, none⟩ = some (.slice pc r.b.length cc)) ∧
    Calls Tryz.prog 98 #[.agg #[.int .i64 (r.k : Int), .int .i64 (r.n : Int), .int .i64 (r.i : Int), .int .i64 (r.e : Int), .slice pc r.b.length cc]] y.drew fun e w9 => e = .returned (.bool true) ∧ (w9.cell? ⟨q5, 0, none⟩ = some (.int .i64 (r.k : Int)) ∧ w9.cell? ⟨q5, 1, none⟩ = some (.int .i64 (r.n : Int)) ∧ w9.cell? ⟨q5, 2, none⟩ = some (.int .i64 (r.i : Int)) ∧ w9.cell? ⟨q5, 3, none⟩ = some (.int .i64 (r.e : Int)) ∧ w9.cell? ⟨q5, 4, none⟩ = some (.slice pc r.b.length cc)) ∧ Calls Tryz.prog 87 #[.agg #[.int .i64 (r.k : Int), .int .i64 (r.n : Int), .int .i64 (r.i : Int), .int .i64 (r.e : Int), .slice pc r.b.length cc]] w9 fun e w9 => ∃ pw cw, e = .returned (.slice pw L cw) ∧ (w9.cell? ⟨q5, 0, none⟩ = some (.int .i64 (r.k : Int)) ∧ w9.cell? ⟨q5, 1, none⟩ = some (.int .i64 (r.n : Int)) ∧ w9.cell? ⟨q5, 2, none⟩ = some (.int .i64 (r.i : Int)) ∧ w9.cell? ⟨q5, 3, none⟩ = some (.int .i64 (r.e : Int)) ∧ w9.cell? ⟨q5, 4, none⟩ = some (.slice pc r.b.length cc)) ∧ Calls Tryz.prog 49 #[.slice p L c, .slice pw L cw] w9 fun e w9 => e = .returned (.bool true) ∧ (w9.cell? ⟨q5, 0, none⟩ = some (.int .i64 (r.k : Int)) ∧ w9.cell? ⟨q5, 1, none⟩ = some (.int .i64 (r.n : Int)) ∧ w9.cell? ⟨q5, 2, none⟩ = some (.int .i64 (r.i : Int)) ∧ w9.cell? ⟨q5, 3, none⟩ = some (.int .i64 (r.e : Int)) ∧ w9.cell? ⟨q5, 4, none⟩ = some (.slice pc r.b.length cc)) ∧ (∃ y0 y1 y2 y3 y4, w9.cell? ⟨q2, 0, none⟩ = some y0 ∧ w9.frozen? ⟨q2, 0, none⟩ = false ∧ w9.cell? ⟨q2, 1, none⟩ = some y1 ∧ w9.frozen? ⟨q2, 1, none⟩ = false ∧ w9.cell? ⟨q2, 2, none⟩ = some y2 ∧ w9.frozen? ⟨q2, 2, none⟩ = false ∧ w9.cell? ⟨q2, 3, none⟩ = some y3 ∧ w9.frozen? ⟨q2, 3, none⟩ = false ∧ w9.cell? ⟨q2, 4, none⟩ = some y4 ∧ w9.frozen? ⟨q2, 4, none⟩ = false) ∧ ((((((w9.setCell ⟨q2, 0, none⟩ (.int .i64 (r.k : Int))).setCell ⟨q2, 1, none⟩ (.int .i64 (r.n : Int))).setCell ⟨q2, 2, none⟩ (.int .i64 (r.i : Int))).setCell ⟨q2, 3, none⟩ (.int .i64 (r.e : Int))).setCell ⟨q2, 4, none⟩ (.slice pc r.b.length cc)).cell? ⟨q5, 0, none⟩ = some (.int .i64 (r.k : Int)) ∧ (((((w9.setCell ⟨q2, 0, none⟩ (.int .i64 (r.k : Int))).setCell ⟨q2, 1, none⟩ (.int .i64 (r.n : Int))).setCell ⟨q2, 2, none⟩ (.int .i64 (r.i : Int))).setCell ⟨q2, 3, none⟩ (.int .i64 (r.e : Int))).setCell ⟨q2, 4, none⟩ (.slice pc r.b.length cc)).cell? ⟨q5, 1, none⟩ = some (.int .i64 (r.n : Int)) ∧ (((((w9.setCell ⟨q2, 0, none⟩ (.int .i64 (r.k : Int))).setCell ⟨q2, 1, none⟩ (.int .i64 (r.n : Int))).setCell ⟨q2, 2, none⟩ (.int .i64 (r.i : Int))).setCell ⟨q2, 3, none⟩ (.int .i64 (r.e : Int))).setCell ⟨q2, 4, none⟩ (.slice pc r.b.length cc)).cell? ⟨q5, 2, none⟩ = some (.int .i64 (r.i : Int)) ∧ (((((w9.setCell ⟨q2, 0, none⟩ (.int .i64 (r.k : Int))).setCell ⟨q2, 1, none⟩ (.int .i64 (r.n : Int))).setCell ⟨q2, 2, none⟩ (.int .i64 (r.i : Int))).setCell ⟨q2, 3, none⟩ (.int .i64 (r.e : Int))).setCell ⟨q2, 4, none⟩ (.slice pc r.b.length cc)).cell? ⟨q5, 3, none⟩ = some (.int .i64 (r.e : Int)) ∧ (((((w9.setCell ⟨q2, 0, none⟩ (.int .i64 (r.k : Int))).setCell ⟨q2, 1, none⟩ (.int .i64 (r.n : Int))).setCell ⟨q2, 2, none⟩ (.int .i64 (r.i : Int))).setCell ⟨q2, 3, none⟩ (.int .i64 (r.e : Int))).setCell ⟨q2, 4, none⟩ (.slice pc r.b.length cc)).cell? ⟨q5, 4, none⟩ = some (.slice pc r.b.length cc)) ∧ (fun wz => Kp (fun _ => False) w wz ∧ Lv wz q2 [.int .i64 (r.k : Int), .int .i64 (r.n : Int), .int .i64 (r.i : Int), .int .i64 (r.e : Int), .slice pc r.b.length cc] ∧ Rb wz pc r.b.length r.b) (((((w9.setCell ⟨q2, 0, none⟩ (.int .i64 (r.k : Int))).setCell ⟨q2, 1, none⟩ (.int .i64 (r.n : Int))).setCell ⟨q2, 2, none⟩ (.int .i64 (r.i : Int))).setCell ⟨q2, 3, none⟩ (.int .i64 (r.e : Int))).setCell ⟨q2, 4, none⟩ (.slice pc r.b.length cc)) := by
  have kd : Kp (fun _ => False) y y.drew := (Kp.refl _ _).drew
  have s5 : ∀ u, Kp (fun _ => False) y u → (u.cell? ⟨q5, 0, none⟩ = some (.int .i64 (r.k : Int)) ∧ u.cell? ⟨q5, 1, none⟩ = some (.int .i64 (r.n : Int)) ∧ u.cell? ⟨q5, 2, none⟩ = some (.int .i64 (r.i : Int)) ∧ u.cell? ⟨q5, 3, none⟩ = some (.int .i64 (r.e : Int)) ∧ u.cell? ⟨q5, 4, none⟩ = some (.slice pc r.b.length cc)) := fun u ku => by
    have l := x.l5.keep ku id
    exact ⟨l.cell (j := 0) rfl, l.cell (j := 1) rfl, l.cell (j := 2) rfl, l.cell (j := 3) rfl, l.cell (j := 4) rfl⟩
  refine ⟨s5 _ kd, ?_⟩
  refine (rmay_ok r pc cc y.drew hg).mono ?_
  rintro e1 w1 ⟨rfl, k1⟩
  have k01 := kd.trans k1 (fun _ _ e => e)
  refine ⟨rfl, s5 _ k01, ?_⟩
  refine (written_ok r pc cc w1 (hb.keep0 k01) hg.g).mono ?_
  rintro e2 w2 ⟨v, rfl, k2, o2⟩
  have k02 := k01.trans k2 (fun _ _ e => e)
  obtain ⟨pw, cw, rfl, _, rw2, _⟩ := o2.rb (wrS_b hg.g)
  have hL : L = (wrS r).length := hs.len.symm
  refine ⟨pw, cw, by rw [hL], s5 _ k02, ?_⟩
  have hq := equal_any c cw w2 (hs.keep0 (x.k.trans k02 (fun _ _ e => e))) rw2
  rw [decide_eq_true rfl, ← hL] at hq
  refine hq.mono ?_
  rintro e3 w3 ⟨rfl, hw3⟩
  have hw4 := hw3.symm
  subst hw4
  have l2 : Lv w2 q2 zr5 := x.l2.keep k02 id
  have l2b : Lv (((((w2.setCell ⟨q2, 0, none⟩ (.int .i64 (r.k : Int))).setCell ⟨q2, 1, none⟩ (.int .i64 (r.n : Int))).setCell ⟨q2, 2, none⟩ (.int .i64 (r.i : Int))).setCell ⟨q2, 3, none⟩ (.int .i64 (r.e : Int))).setCell ⟨q2, 4, none⟩ (.slice pc r.b.length cc)) q2 [.int .i64 (r.k : Int), .int .i64 (r.n : Int), .int .i64 (r.i : Int), .int .i64 (r.e : Int), .slice pc r.b.length cc] := lv_set5 l2 _ _ _ _ _
  have kz : Kp (fun b => b = q2) w2 (((((w2.setCell ⟨q2, 0, none⟩ (.int .i64 (r.k : Int))).setCell ⟨q2, 1, none⟩ (.int .i64 (r.n : Int))).setCell ⟨q2, 2, none⟩ (.int .i64 (r.i : Int))).setCell ⟨q2, 3, none⟩ (.int .i64 (r.e : Int))).setCell ⟨q2, 4, none⟩ (.slice pc r.b.length cc)) := by
    show Kp _ _ _
    exact (((((Kp.refl (fun b => b = q2) w2).setCell (fun _ => rfl) _).setCell (fun _ => rfl) _).setCell (fun _ => rfl) _).setCell (fun _ => rfl) _).setCell (fun _ => rfl) _
  have ho := x.o
  have s9 := (x.l5.keep k02 id).keep kz (fun e => ho.2.2.2.2.1 e.symm)
  refine ⟨rfl, s5 _ k02, ⟨_, _, _, _, _, l2.cell (j := 0) rfl, l2.fz (j := 0) (show 0 < 5 by decide), l2.cell (j := 1) rfl, l2.fz (j := 1) (show 1 < 5 by decide), l2.cell (j := 2) rfl, l2.fz (j := 2) (show 2 < 5 by decide), l2.cell (j := 3) rfl, l2.fz (j := 3) (show 3 < 5 by decide), l2.cell (j := 4) rfl, l2.fz (j := 4) (show 4 < 5 by decide)⟩, ⟨s9.cell (j := 0) rfl, s9.cell (j := 1) rfl, s9.cell (j := 2) rfl, s9.cell (j := 3) rfl, s9.cell (j := 4) rfl⟩, ?_⟩
  exact ⟨(x.k.trans k02 (fun _ _ e => e)).trans kz (fun b hb e => by omega), l2b, (hb.keep0 k02).keep kz (fun a ha _ e => hpq a ha e)⟩

set_option maxRecDepth 100000 in
set_option maxHeartbeats 6400000 in
theorem recordOf_ok {w : World} {r : Rc} {p : Option Addr} {c : Nat} (hg : Cn r) (hr : Rb w p (wrS r).length (wrS r)) (hc : (wrS r).length ≤ c) :
    Calls Tryz.prog 62 #[.slice p (wrS r).length c] w fun e w' => ∃ q cq, e = .returned (.tuple #[rcV r q cq, .bool true]) ∧ Kp (fun _ => False) w w' ∧ Rb w' q r.b.length r.b ∧ ∀ a, q = some a → w.heap.size ≤ a.block := by
  obtain ⟨k, n, i, e, b⟩ := r
  obtain ⟨L, hL⟩ : ∃ L, L = (wrS ⟨k, n, i, e, b⟩).length := ⟨_, rfl⟩
  have HSr : Hid (Rb w p L (wrS ⟨k, n, i, e, b⟩) ∧ L ≤ c) := by rw [hL]; exact ⟨hr, hc⟩
  have HG : Hid (Cn ⟨k, n, i, e, b⟩) := hg
  have HW : Hid (wrS ⟨k, n, i, e, b⟩ = k :: (numB n ++ ((if k = 4 then [] else numB i) ++ ((if k = 3 then numB e else []) ++ b)))) := by
    show _ = _
    unfold wrS
    simp only [List.cons_append, List.nil_append, List.append_assoc]
  obtain ⟨z0, hz0⟩ : ∃ y, y = w.alloc (.cells #[.int .i64 0, .int .i64 0, .int .i64 0, .int .i64 0, .slice none 0 0] 122) := ⟨_, rfl⟩
  obtain ⟨z1, hz1⟩ : ∃ y, y = z0.alloc (.cells #[.slice p L c] 189) := ⟨_, rfl⟩
  obtain ⟨z2, hz2⟩ : ∃ y, y = z1.alloc (.cells #[.int .i64 0, .int .i64 0, .int .i64 0, .int .i64 0, .slice none 0 0] 122) := ⟨_, rfl⟩
  obtain ⟨q2, hq2⟩ : ∃ x, x = w.heap.size := ⟨_, rfl⟩
  obtain ⟨r4, hr4⟩ : ∃ x, x = w.heap.size + 1 := ⟨_, rfl⟩
  obtain ⟨q5, hq5⟩ : ∃ x, x = w.heap.size + 1 + 1 := ⟨_, rfl⟩
  have s0 : z0.heap.size = w.heap.size + 1 := by rw [hz0]; simp
  have s1 : z1.heap.size = w.heap.size + 1 + 1 := by rw [hz1]; simp [s0]
  have k0 : Kp (fun _ => False) w z0 := by rw [hz0]; exact (Kp.refl _ _).alloc _
  have k1 : Kp (fun _ => False) z0 z1 := by rw [hz1]; exact (Kp.refl _ _).alloc _
  have k2 : Kp (fun _ => False) z1 z2 := by rw [hz2]; exact (Kp.refl _ _).alloc _
  have l2 : Lv z0 q2 zr5 := by rw [hz0, hq2]; exact Lv.new w _ _
  have l4 : Lv z1 r4 [.slice p L c] := by rw [hz1, hr4, ← s0]; exact Lv.new z0 _ _
  have l5 : Lv z2 q5 zr5 := by rw [hz2, hq5, ← s1]; exact Lv.new z1 _ _
  have k02 : Kp (fun _ => False) w z2 := (k0.trans k1 (fun _ _ e => e)).trans k2 (fun _ _ e => e)
  have HR0 : Hid (RO w z2 q2 r4 q5 (wrS ⟨k, n, i, e, b⟩) zr5) := by
    refine ⟨⟨p, c, ?_, by rw [← hL]; exact HSr.out.2, hr.keep0 k02, fun a ha hp => ?_⟩, l5, (l2.keep k1 id).keep k2 id, k02, ⟨by omega, by omega, by omega, by omega, by omega, by omega⟩⟩
    · rw [← hL]; exact l4.keep k2 id
    · obtain ⟨g, o, e2, hb⟩ := hr.pt hp
      rw [e2] at ha
      cases ha
      have h9 := World.block_lt_of_cell? _ _ (hb 0 hp)
      exact ⟨h9, by rw [hr4]; show g ≠ _; have : g < w.heap.size := h9; omega⟩
  by_cases hk : k = 4
  · obtain rfl : i = 0 := HG.out.i4 hk
    obtain rfl : e = 0 := HG.out.e3 (show k ≠ 3 by omega)
    subst hk
    rw [if_pos rfl, if_neg (by decide), List.nil_append, List.nil_append] at HW
    have HNx : Hid (Calls _ _ _ z2 _) := cnext_ok (x := 4) (t := (numB n ++ b)) (by rw [← HW.out]; exact HR0.out.c)
    rw [← hL]
    clear hL hr hc s0 s1 k0 k1 k2 l2 l4 l5 k02
    go_enter Tryz.func62, Tryz.ntmps62
    go_wp2_with fail
    rw [← hz0, ← hz1, ← hz2, ← hq5, ← hr4, ← hq2]
    clear hz0 hz1 hz2 hq5 hr4 hq2
    refine HNx.out.mono ?_
    rintro e9 u1 ⟨rfl, k1, c1⟩
    have HR1 : Hid (RO w u1 q2 r4 q5 (numB n ++ b) zr5) := HR0.out.call k1 c1
    clear k1 c1 HR0 HNx
    have a1 := HR1.out.l5.cell (j := 0) rfl
    have f1 := HR1.out.l5.fz (j := 0) (show 0 < 5 by decide)
    have HR2 : Hid (RO w (u1.setCell ⟨q5, 0, none⟩ (.int .i64 4)) q2 r4 q5 (numB n ++ b) [.int .i64 4, .int .i64 0, .int .i64 0, .int .i64 0, .slice none 0 0]) := HR1.out.store 0 _ (show 0 < 5 by decide)
    have b1 := HR2.out.l5.cell (j := 0) rfl
    have HN1 : Hid (Calls _ _ _ (u1.setCell ⟨q5, 0, none⟩ (.int .i64 4)) _) := cnumber_ok HG.out.g.n1 HR2.out.c
    clear HR1
    go_wp2_with fail
    refine HN1.out.mono ?_
    rintro e9 u2 ⟨rfl, k1, c1⟩
    have HR3 : Hid (RO w u2 q2 r4 q5 b [.int .i64 4, .int .i64 0, .int .i64 0, .int .i64 0, .slice none 0 0]) := HR2.out.call k1 c1
    clear k1 c1 HR2 HN1 a1 f1 b1
    have g0 := HR3.out.l5.cell (j := 0) rfl
    have a3 := HR3.out.l5.cell (j := 1) rfl
    have f3 := HR3.out.l5.fz (j := 1) (show 1 < 5 by decide)
    have HR4 : Hid (RO w (u2.setCell ⟨q5, 1, none⟩ (.int .i64 (n : Int))) q2 r4 q5 b [.int .i64 4, .int .i64 (n : Int), .int .i64 0, .int .i64 0, .slice none 0 0]) := HR3.out.store 1 _ (show 1 < 5 by decide)
    have b3 := HR4.out.l5.cell (j := 0) rfl
    obtain ⟨qb, cb, lb, hcb, rb, _⟩ := HR4.out.c
    have d3 := lb.cell (j := 0) rfl
    have HC : Hid (Calls Tryz.prog 51 #[.slice qb b.length cb] (u2.setCell ⟨q5, 1, none⟩ (.int .i64 (n : Int))) _) := clone_any qb b.length cb b (u2.setCell ⟨q5, 1, none⟩ (.int .i64 (n : Int))) rb (show b.length ≤ 140737488355328 by have := HG.out.g.bl; have h9 : b.length ≤ 1980 := this; omega)
    clear lb hcb rb HR3
    go_wp2_with fail
    refine HC.out.mono ?_
    rintro e9 v1 ⟨vb, rfl, k1, o1⟩
    obtain ⟨pc, cc, rfl⟩ := own_form o1
    have HRb : Hid (Rb v1 pc b.length b ∧ ∀ x, pc = some x → (u2.setCell ⟨q5, 1, none⟩ (.int .i64 (n : Int))).heap.size ≤ x.block) := by
      obtain ⟨p9, c9, e9, _, h9, h8⟩ := o1.rb HG.out.g.by_
      cases e9
      exact ⟨h9, fun x hx => (h8 x hx).1⟩
    have HRv : Hid (RO w v1 q2 r4 q5 b [.int .i64 4, .int .i64 (n : Int), .int .i64 0, .int .i64 0, .slice none 0 0]) := HR4.out.keep0 k1
    have HSz : Hid (w.heap.size ≤ (u2.setCell ⟨q5, 1, none⟩ (.int .i64 (n : Int))).heap.size) := HR4.out.k.size
    have HQ2 : Hid (q2 < (u2.setCell ⟨q5, 1, none⟩ (.int .i64 (n : Int))).heap.size) := World.block_lt_of_cell? _ _ (HR4.out.l2.cell (j := 0) rfl)
    have HQ5 : Hid (q5 < (u2.setCell ⟨q5, 1, none⟩ (.int .i64 (n : Int))).heap.size) := World.block_lt_of_cell? _ _ b3
    clear k1 o1 HR4 HC a3 f3 b3 d3 g0
    have a9 := HRv.out.l5.cell (j := 4) rfl
    have f9 := HRv.out.l5.fz (j := 4) (show 4 < 5 by decide)
    have HRz : Hid (RO w (v1.setCell ⟨q5, 4, none⟩ (.slice pc b.length cc)) q2 r4 q5 b [.int .i64 4, .int .i64 (n : Int), .int .i64 0, .int .i64 0, .slice pc b.length cc]) := HRv.out.store 4 _ (show 4 < 5 by decide)
    have kz : Kp (fun b => b = q5) v1 (v1.setCell ⟨q5, 4, none⟩ (.slice pc b.length cc)) := by show Kp _ _ _; exact (Kp.refl (fun b => b = q5) v1).setCell (fun _ => rfl) _
    have HRc : Hid (Rb (v1.setCell ⟨q5, 4, none⟩ (.slice pc b.length cc)) pc b.length b) := HRb.out.1.keep kz (fun x hx _ e => by
      have h1 := HRb.out.2 x hx
      have h2 := HQ5.out
      have h3 : x.block = q5 := e
      omega)
    have HPc : Hid (∀ x, pc = some x → w.heap.size ≤ x.block) := fun x hx => Nat.le_trans HSz.out (HRb.out.2 x hx)
    have HPq : Hid (∀ x, pc = some x → ¬ x.block = q2) := fun x hx e => by
      have h1 := HRb.out.2 x hx
      have h2 := HQ2.out
      omega
    clear kz HRv HRb HSz HQ5 HQ2
    go_upto_region 10 with fail
    obtain ⟨y, hy⟩ : ∃ y, y = (v1.setCell ⟨q5, 4, none⟩ (.slice pc b.length cc)) := ⟨_, rfl⟩
    rw [← hy] at HRz HRc ⊢
    clear hy
    have hch := ro_hc (r := ⟨4, n, 0, 0, b⟩) (c := c) HG.out HSr.out.1 HRz.out HRc.out HPq.out
    refine ro10_region ⟨by kernel_rfl, by kernel_rfl, by kernel_rfl, by kernel_rfl, by kernel_rfl, by kernel_rfl, by kernel_rfl, by kernel_rfl, by kernel_rfl, by kernel_rfl, by kernel_rfl, by kernel_rfl, by kernel_rfl, by kernel_rfl, by kernel_rfl, by kernel_rfl, by kernel_rfl, by kernel_rfl, by kernel_rfl, by kernel_rfl, by kernel_rfl, by kernel_rfl⟩ q5 q2 _ _ _ _ pc b.length cc p L c none 0 (fun d _ _ _ _ h => by cases d <;> exact h) (by rfl) (by rfl) (by rfl) (by rfl) hch.1 (fun wz => Kp (fun _ => False) w wz ∧ Lv wz q2 [.int .i64 4, .int .i64 (n : Int), .int .i64 0, .int .i64 0, .slice pc b.length cc] ∧ Rb wz pc b.length b) hch.2 ?_
    rintro pw cw w9 ⟨kz, lz, rz⟩
    obtain ⟨wz, hwz⟩ : ∃ z, z = (((((w9.setCell ⟨q2, 0, none⟩ (.int .i64 ((4 : Nat) : Int))).setCell ⟨q2, 1, none⟩ (.int .i64 (n : Int))).setCell ⟨q2, 2, none⟩ (.int .i64 ((0 : Nat) : Int))).setCell ⟨q2, 3, none⟩ (.int .i64 ((0 : Nat) : Int))).setCell ⟨q2, 4, none⟩ (.slice pc b.length cc)) := ⟨_, rfl⟩
    have HZ : Hid (Kp (fun _ => False) w wz ∧ Rb wz pc b.length b) := by rw [hwz]; exact ⟨kz, rz⟩
    have lz2 : Lv wz q2 [.int .i64 4, .int .i64 (n : Int), .int .i64 0, .int .i64 0, .slice pc b.length cc] := by rw [hwz]; exact lz
    clear hch kz lz rz HRz HRc HPq HSr HW a9 f9
    simp only [Act.put, List.setIfInBounds_toArray, List.set_cons_succ, List.set_cons_zero]
    have d0 := lz2.cell (j := 0) rfl
    have d1 := lz2.cell (j := 1) rfl
    have d2 := lz2.cell (j := 2) rfl
    have d3 := lz2.cell (j := 3) rfl
    have d4 := lz2.cell (j := 4) rfl
    rw [← hwz]
    clear hwz
    have HLd : Hid ((loadVar 122 ⟨q2, 0, none⟩).run Tryz.prog wz = .ok (.agg #[.int .i64 4, .int .i64 (n : Int), .int .i64 0, .int .i64 0, .slice pc b.length cc]) wz) := lz2.load ⟨_, Tryz.underlying122, rfl⟩ szRec rfl
    go_wp2_with fail
    refine bodyPost_ret (res_cell_tmp Tryz.results62 _ _ q2 _ rfl HLd.out) rfl ?_
    exact ⟨pc, cc, rfl, HZ.out.1, HZ.out.2, HPc.out⟩
  · by_cases hk3 : k = 3
    · subst hk3
      rw [if_neg (by decide), if_pos rfl] at HW
      have HNx : Hid (Calls _ _ _ z2 _) := cnext_ok (x := 3) (t := (numB n ++ (numB i ++ (numB e ++ b)))) (by rw [← HW.out]; exact HR0.out.c)
      rw [← hL]
      clear hL hr hc s0 s1 k0 k1 k2 l2 l4 l5 k02
      go_enter Tryz.func62, Tryz.ntmps62
      go_wp2_with fail
      rw [← hz0, ← hz1, ← hz2, ← hq5, ← hr4, ← hq2]
      clear hz0 hz1 hz2 hq5 hr4 hq2
      refine HNx.out.mono ?_
      rintro e9 u1 ⟨rfl, k1, c1⟩
      have HR1 : Hid (RO w u1 q2 r4 q5 (numB n ++ (numB i ++ (numB e ++ b))) zr5) := HR0.out.call k1 c1
      clear k1 c1 HR0 HNx
      have a1 := HR1.out.l5.cell (j := 0) rfl
      have f1 := HR1.out.l5.fz (j := 0) (show 0 < 5 by decide)
      have HR2 : Hid (RO w (u1.setCell ⟨q5, 0, none⟩ (.int .i64 3)) q2 r4 q5 (numB n ++ (numB i ++ (numB e ++ b))) [.int .i64 3, .int .i64 0, .int .i64 0, .int .i64 0, .slice none 0 0]) := HR1.out.store 0 _ (show 0 < 5 by decide)
      have b1 := HR2.out.l5.cell (j := 0) rfl
      have HN1 : Hid (Calls _ _ _ (u1.setCell ⟨q5, 0, none⟩ (.int .i64 3)) _) := cnumber_ok HG.out.g.n1 HR2.out.c
      clear HR1
      go_wp2_with fail
      refine HN1.out.mono ?_
      rintro e9 u2 ⟨rfl, k1, c1⟩
      have HR3 : Hid (RO w u2 q2 r4 q5 (numB i ++ (numB e ++ b)) [.int .i64 3, .int .i64 0, .int .i64 0, .int .i64 0, .slice none 0 0]) := HR2.out.call k1 c1
      clear k1 c1 HR2 HN1 a1 f1 b1
      have a3 := HR3.out.l5.cell (j := 1) rfl
      have f3 := HR3.out.l5.fz (j := 1) (show 1 < 5 by decide)
      have HR4 : Hid (RO w (u2.setCell ⟨q5, 1, none⟩ (.int .i64 (n : Int))) q2 r4 q5 (numB i ++ (numB e ++ b)) [.int .i64 3, .int .i64 (n : Int), .int .i64 0, .int .i64 0, .slice none 0 0]) := HR3.out.store 1 _ (show 1 < 5 by decide)
      have b3 := HR4.out.l5.cell (j := 0) rfl
      have HN3 : Hid (Calls _ _ _ (u2.setCell ⟨q5, 1, none⟩ (.int .i64 (n : Int))) _) := cnumber_ok HG.out.g.i1 HR4.out.c
      clear HR3
      go_wp2_with fail
      refine HN3.out.mono ?_
      rintro e9 u4 ⟨rfl, k1, c1⟩
      have HR5 : Hid (RO w u4 q2 r4 q5 (numB e ++ b) [.int .i64 3, .int .i64 (n : Int), .int .i64 0, .int .i64 0, .slice none 0 0]) := HR4.out.call k1 c1
      clear k1 c1 HR4 HN3 a3 f3 b3
      have a5 := HR5.out.l5.cell (j := 2) rfl
      have f5 := HR5.out.l5.fz (j := 2) (show 2 < 5 by decide)
      have HR6 : Hid (RO w (u4.setCell ⟨q5, 2, none⟩ (.int .i64 (i : Int))) q2 r4 q5 (numB e ++ b) [.int .i64 3, .int .i64 (n : Int), .int .i64 (i : Int), .int .i64 0, .slice none 0 0]) := HR5.out.store 2 _ (show 2 < 5 by decide)
      have b5 := HR6.out.l5.cell (j := 0) rfl
      have HN5 : Hid (Calls _ _ _ (u4.setCell ⟨q5, 2, none⟩ (.int .i64 (i : Int))) _) := cnumber_ok HG.out.g.e1 HR6.out.c
      clear HR5
      go_wp2_with fail
      refine HN5.out.mono ?_
      rintro e9 u6 ⟨rfl, k1, c1⟩
      have HR7 : Hid (RO w u6 q2 r4 q5 b [.int .i64 3, .int .i64 (n : Int), .int .i64 (i : Int), .int .i64 0, .slice none 0 0]) := HR6.out.call k1 c1
      clear k1 c1 HR6 HN5 a5 f5 b5
      have g0 := HR7.out.l5.cell (j := 0) rfl
      have a7 := HR7.out.l5.cell (j := 3) rfl
      have f7 := HR7.out.l5.fz (j := 3) (show 3 < 5 by decide)
      have HR8 : Hid (RO w (u6.setCell ⟨q5, 3, none⟩ (.int .i64 (e : Int))) q2 r4 q5 b [.int .i64 3, .int .i64 (n : Int), .int .i64 (i : Int), .int .i64 (e : Int), .slice none 0 0]) := HR7.out.store 3 _ (show 3 < 5 by decide)
      have b7 := HR8.out.l5.cell (j := 0) rfl
      obtain ⟨qb, cb, lb, hcb, rb, _⟩ := HR8.out.c
      have d7 := lb.cell (j := 0) rfl
      have HC : Hid (Calls Tryz.prog 51 #[.slice qb b.length cb] (u6.setCell ⟨q5, 3, none⟩ (.int .i64 (e : Int))) _) := clone_any qb b.length cb b (u6.setCell ⟨q5, 3, none⟩ (.int .i64 (e : Int))) rb (show b.length ≤ 140737488355328 by have := HG.out.g.bl; have h9 : b.length ≤ 1980 := this; omega)
      clear lb hcb rb HR7
      go_wp2_with fail
      refine HC.out.mono ?_
      rintro e9 v1 ⟨vb, rfl, k1, o1⟩
      obtain ⟨pc, cc, rfl⟩ := own_form o1
      have HRb : Hid (Rb v1 pc b.length b ∧ ∀ x, pc = some x → (u6.setCell ⟨q5, 3, none⟩ (.int .i64 (e : Int))).heap.size ≤ x.block) := by
        obtain ⟨p9, c9, e9, _, h9, h8⟩ := o1.rb HG.out.g.by_
        cases e9
        exact ⟨h9, fun x hx => (h8 x hx).1⟩
      have HRv : Hid (RO w v1 q2 r4 q5 b [.int .i64 3, .int .i64 (n : Int), .int .i64 (i : Int), .int .i64 (e : Int), .slice none 0 0]) := HR8.out.keep0 k1
      have HSz : Hid (w.heap.size ≤ (u6.setCell ⟨q5, 3, none⟩ (.int .i64 (e : Int))).heap.size) := HR8.out.k.size
      have HQ2 : Hid (q2 < (u6.setCell ⟨q5, 3, none⟩ (.int .i64 (e : Int))).heap.size) := World.block_lt_of_cell? _ _ (HR8.out.l2.cell (j := 0) rfl)
      have HQ5 : Hid (q5 < (u6.setCell ⟨q5, 3, none⟩ (.int .i64 (e : Int))).heap.size) := World.block_lt_of_cell? _ _ b7
      clear k1 o1 HR8 HC a7 f7 b7 d7 g0
      have a9 := HRv.out.l5.cell (j := 4) rfl
      have f9 := HRv.out.l5.fz (j := 4) (show 4 < 5 by decide)
      have HRz : Hid (RO w (v1.setCell ⟨q5, 4, none⟩ (.slice pc b.length cc)) q2 r4 q5 b [.int .i64 3, .int .i64 (n : Int), .int .i64 (i : Int), .int .i64 (e : Int), .slice pc b.length cc]) := HRv.out.store 4 _ (show 4 < 5 by decide)
      have kz : Kp (fun b => b = q5) v1 (v1.setCell ⟨q5, 4, none⟩ (.slice pc b.length cc)) := by show Kp _ _ _; exact (Kp.refl (fun b => b = q5) v1).setCell (fun _ => rfl) _
      have HRc : Hid (Rb (v1.setCell ⟨q5, 4, none⟩ (.slice pc b.length cc)) pc b.length b) := HRb.out.1.keep kz (fun x hx _ e => by
        have h1 := HRb.out.2 x hx
        have h2 := HQ5.out
        have h3 : x.block = q5 := e
        omega)
      have HPc : Hid (∀ x, pc = some x → w.heap.size ≤ x.block) := fun x hx => Nat.le_trans HSz.out (HRb.out.2 x hx)
      have HPq : Hid (∀ x, pc = some x → ¬ x.block = q2) := fun x hx e => by
        have h1 := HRb.out.2 x hx
        have h2 := HQ2.out
        omega
      clear kz HRv HRb HSz HQ5 HQ2
      go_upto_region 10 with fail
      obtain ⟨y, hy⟩ : ∃ y, y = (v1.setCell ⟨q5, 4, none⟩ (.slice pc b.length cc)) := ⟨_, rfl⟩
      rw [← hy] at HRz HRc ⊢
      clear hy
      have hch := ro_hc (r := ⟨3, n, i, e, b⟩) (c := c) HG.out HSr.out.1 HRz.out HRc.out HPq.out
      refine ro10_region ⟨by kernel_rfl, by kernel_rfl, by kernel_rfl, by kernel_rfl, by kernel_rfl, by kernel_rfl, by kernel_rfl, by kernel_rfl, by kernel_rfl, by kernel_rfl, by kernel_rfl, by kernel_rfl, by kernel_rfl, by kernel_rfl, by kernel_rfl, by kernel_rfl, by kernel_rfl, by kernel_rfl, by kernel_rfl, by kernel_rfl, by kernel_rfl, by kernel_rfl⟩ q5 q2 _ _ _ _ pc b.length cc p L c none 0 (fun d _ _ _ _ h => by cases d <;> exact h) (by rfl) (by rfl) (by rfl) (by rfl) hch.1 (fun wz => Kp (fun _ => False) w wz ∧ Lv wz q2 [.int .i64 3, .int .i64 (n : Int), .int .i64 (i : Int), .int .i64 (e : Int), .slice pc b.length cc] ∧ Rb wz pc b.length b) hch.2 ?_
      rintro pw cw w9 ⟨kz, lz, rz⟩
      obtain ⟨wz, hwz⟩ : ∃ z, z = (((((w9.setCell ⟨q2, 0, none⟩ (.int .i64 ((3 : Nat) : Int))).setCell ⟨q2, 1, none⟩ (.int .i64 (n : Int))).setCell ⟨q2, 2, none⟩ (.int .i64 (i : Int))).setCell ⟨q2, 3, none⟩ (.int .i64 (e : Int))).setCell ⟨q2, 4, none⟩ (.slice pc b.length cc)) := ⟨_, rfl⟩
      have HZ : Hid (Kp (fun _ => False) w wz ∧ Rb wz pc b.length b) := by rw [hwz]; exact ⟨kz, rz⟩
      have lz2 : Lv wz q2 [.int .i64 3, .int .i64 (n : Int), .int .i64 (i : Int), .int .i64 (e : Int), .slice pc b.length cc] := by rw [hwz]; exact lz
      clear hch kz lz rz HRz HRc HPq HSr HW a9 f9
      simp only [Act.put, List.setIfInBounds_toArray, List.set_cons_succ, List.set_cons_zero]
      have d0 := lz2.cell (j := 0) rfl
      have d1 := lz2.cell (j := 1) rfl
      have d2 := lz2.cell (j := 2) rfl
      have d3 := lz2.cell (j := 3) rfl
      have d4 := lz2.cell (j := 4) rfl
      rw [← hwz]
      clear hwz
      have HLd : Hid ((loadVar 122 ⟨q2, 0, none⟩).run Tryz.prog wz = .ok (.agg #[.int .i64 3, .int .i64 (n : Int), .int .i64 (i : Int), .int .i64 (e : Int), .slice pc b.length cc]) wz) := lz2.load ⟨_, Tryz.underlying122, rfl⟩ szRec rfl
      go_wp2_with fail
      refine bodyPost_ret (res_cell_tmp Tryz.results62 _ _ q2 _ rfl HLd.out) rfl ?_
      exact ⟨pc, cc, rfl, HZ.out.1, HZ.out.2, HPc.out⟩
    · obtain rfl : e = 0 := HG.out.e3 hk3
      rw [if_neg hk, if_neg hk3, List.nil_append] at HW
      have hk4 : k ≤ 4 := hg.g.k1.2
      have hwk : wrap64 (k : Int) = (k : Int) := by unfold wrap64; omega
      have hka : ¬ (k : Int) = 4 := fun e9 => hk (Int.ofNat.inj e9)
      have hkb : ¬ (k : Int) = 3 := fun e9 => hk3 (Int.ofNat.inj e9)
      have HNx : Hid (Calls _ _ _ z2 _) := cnext_ok (x := k) (t := (numB n ++ (numB i ++ b))) (by rw [← HW.out]; exact HR0.out.c)
      rw [← hL]
      clear hL hr hc s0 s1 k0 k1 k2 l2 l4 l5 k02
      go_enter Tryz.func62, Tryz.ntmps62
      go_wp2_with fail
      rw [← hz0, ← hz1, ← hz2, ← hq5, ← hr4, ← hq2]
      clear hz0 hz1 hz2 hq5 hr4 hq2
      refine HNx.out.mono ?_
      rintro e9 u1 ⟨rfl, k1, c1⟩
      have HR1 : Hid (RO w u1 q2 r4 q5 (numB n ++ (numB i ++ b)) zr5) := HR0.out.call k1 c1
      clear k1 c1 HR0 HNx
      have a1 := HR1.out.l5.cell (j := 0) rfl
      have f1 := HR1.out.l5.fz (j := 0) (show 0 < 5 by decide)
      have HR2 : Hid (RO w (u1.setCell ⟨q5, 0, none⟩ (.int .i64 (k : Int))) q2 r4 q5 (numB n ++ (numB i ++ b)) [.int .i64 (k : Int), .int .i64 0, .int .i64 0, .int .i64 0, .slice none 0 0]) := HR1.out.store 0 _ (show 0 < 5 by decide)
      have b1 := HR2.out.l5.cell (j := 0) rfl
      have HN1 : Hid (Calls _ _ _ (u1.setCell ⟨q5, 0, none⟩ (.int .i64 (k : Int))) _) := cnumber_ok HG.out.g.n1 HR2.out.c
      clear HR1
      go_wp2_with fail
      refine HN1.out.mono ?_
      rintro e9 u2 ⟨rfl, k1, c1⟩
      have HR3 : Hid (RO w u2 q2 r4 q5 (numB i ++ b) [.int .i64 (k : Int), .int .i64 0, .int .i64 0, .int .i64 0, .slice none 0 0]) := HR2.out.call k1 c1
      clear k1 c1 HR2 HN1 a1 f1 b1
      have a3 := HR3.out.l5.cell (j := 1) rfl
      have f3 := HR3.out.l5.fz (j := 1) (show 1 < 5 by decide)
      have HR4 : Hid (RO w (u2.setCell ⟨q5, 1, none⟩ (.int .i64 (n : Int))) q2 r4 q5 (numB i ++ b) [.int .i64 (k : Int), .int .i64 (n : Int), .int .i64 0, .int .i64 0, .slice none 0 0]) := HR3.out.store 1 _ (show 1 < 5 by decide)
      have b3 := HR4.out.l5.cell (j := 0) rfl
      have HN3 : Hid (Calls _ _ _ (u2.setCell ⟨q5, 1, none⟩ (.int .i64 (n : Int))) _) := cnumber_ok HG.out.g.i1 HR4.out.c
      clear HR3
      go_wp2_with fail
      refine HN3.out.mono ?_
      rintro e9 u4 ⟨rfl, k1, c1⟩
      have HR5 : Hid (RO w u4 q2 r4 q5 b [.int .i64 (k : Int), .int .i64 (n : Int), .int .i64 0, .int .i64 0, .slice none 0 0]) := HR4.out.call k1 c1
      clear k1 c1 HR4 HN3 a3 f3 b3
      have g0 := HR5.out.l5.cell (j := 0) rfl
      have a5 := HR5.out.l5.cell (j := 2) rfl
      have f5 := HR5.out.l5.fz (j := 2) (show 2 < 5 by decide)
      have HR6 : Hid (RO w (u4.setCell ⟨q5, 2, none⟩ (.int .i64 (i : Int))) q2 r4 q5 b [.int .i64 (k : Int), .int .i64 (n : Int), .int .i64 (i : Int), .int .i64 0, .slice none 0 0]) := HR5.out.store 2 _ (show 2 < 5 by decide)
      have b5 := HR6.out.l5.cell (j := 0) rfl
      obtain ⟨qb, cb, lb, hcb, rb, _⟩ := HR6.out.c
      have d5 := lb.cell (j := 0) rfl
      have HC : Hid (Calls Tryz.prog 51 #[.slice qb b.length cb] (u4.setCell ⟨q5, 2, none⟩ (.int .i64 (i : Int))) _) := clone_any qb b.length cb b (u4.setCell ⟨q5, 2, none⟩ (.int .i64 (i : Int))) rb (show b.length ≤ 140737488355328 by have := HG.out.g.bl; have h9 : b.length ≤ 1980 := this; omega)
      clear lb hcb rb HR5
      go_wp2_with fail
      refine HC.out.mono ?_
      rintro e9 v1 ⟨vb, rfl, k1, o1⟩
      obtain ⟨pc, cc, rfl⟩ := own_form o1
      have HRb : Hid (Rb v1 pc b.length b ∧ ∀ x, pc = some x → (u4.setCell ⟨q5, 2, none⟩ (.int .i64 (i : Int))).heap.size ≤ x.block) := by
        obtain ⟨p9, c9, e9, _, h9, h8⟩ := o1.rb HG.out.g.by_
        cases e9
        exact ⟨h9, fun x hx => (h8 x hx).1⟩
      have HRv : Hid (RO w v1 q2 r4 q5 b [.int .i64 (k : Int), .int .i64 (n : Int), .int .i64 (i : Int), .int .i64 0, .slice none 0 0]) := HR6.out.keep0 k1
      have HSz : Hid (w.heap.size ≤ (u4.setCell ⟨q5, 2, none⟩ (.int .i64 (i : Int))).heap.size) := HR6.out.k.size
      have HQ2 : Hid (q2 < (u4.setCell ⟨q5, 2, none⟩ (.int .i64 (i : Int))).heap.size) := World.block_lt_of_cell? _ _ (HR6.out.l2.cell (j := 0) rfl)
      have HQ5 : Hid (q5 < (u4.setCell ⟨q5, 2, none⟩ (.int .i64 (i : Int))).heap.size) := World.block_lt_of_cell? _ _ b5
      clear k1 o1 HR6 HC a5 f5 b5 d5 g0
      have a9 := HRv.out.l5.cell (j := 4) rfl
      have f9 := HRv.out.l5.fz (j := 4) (show 4 < 5 by decide)
      have HRz : Hid (RO w (v1.setCell ⟨q5, 4, none⟩ (.slice pc b.length cc)) q2 r4 q5 b [.int .i64 (k : Int), .int .i64 (n : Int), .int .i64 (i : Int), .int .i64 0, .slice pc b.length cc]) := HRv.out.store 4 _ (show 4 < 5 by decide)
      have kz : Kp (fun b => b = q5) v1 (v1.setCell ⟨q5, 4, none⟩ (.slice pc b.length cc)) := by show Kp _ _ _; exact (Kp.refl (fun b => b = q5) v1).setCell (fun _ => rfl) _
      have HRc : Hid (Rb (v1.setCell ⟨q5, 4, none⟩ (.slice pc b.length cc)) pc b.length b) := HRb.out.1.keep kz (fun x hx _ e => by
        have h1 := HRb.out.2 x hx
        have h2 := HQ5.out
        have h3 : x.block = q5 := e
        omega)
      have HPc : Hid (∀ x, pc = some x → w.heap.size ≤ x.block) := fun x hx => Nat.le_trans HSz.out (HRb.out.2 x hx)
      have HPq : Hid (∀ x, pc = some x → ¬ x.block = q2) := fun x hx e => by
        have h1 := HRb.out.2 x hx
        have h2 := HQ2.out
        omega
      clear kz HRv HRb HSz HQ5 HQ2
      go_upto_region 10 with fail
      obtain ⟨y, hy⟩ : ∃ y, y = (v1.setCell ⟨q5, 4, none⟩ (.slice pc b.length cc)) := ⟨_, rfl⟩
      rw [← hy] at HRz HRc ⊢
      clear hy
      have hch := ro_hc (r := ⟨k, n, i, 0, b⟩) (c := c) HG.out HSr.out.1 HRz.out HRc.out HPq.out
      refine ro10_region ⟨by kernel_rfl, by kernel_rfl, by kernel_rfl, by kernel_rfl, by kernel_rfl, by kernel_rfl, by kernel_rfl, by kernel_rfl, by kernel_rfl, by kernel_rfl, by kernel_rfl, by kernel_rfl, by kernel_rfl, by kernel_rfl, by kernel_rfl, by kernel_rfl, by kernel_rfl, by kernel_rfl, by kernel_rfl, by kernel_rfl, by kernel_rfl, by kernel_rfl⟩ q5 q2 _ _ _ _ pc b.length cc p L c none 0 (fun d _ _ _ _ h => by cases d <;> exact h) (by rfl) (by rfl) (by rfl) (by rfl) hch.1 (fun wz => Kp (fun _ => False) w wz ∧ Lv wz q2 [.int .i64 (k : Int), .int .i64 (n : Int), .int .i64 (i : Int), .int .i64 0, .slice pc b.length cc] ∧ Rb wz pc b.length b) hch.2 ?_
      rintro pw cw w9 ⟨kz, lz, rz⟩
      obtain ⟨wz, hwz⟩ : ∃ z, z = (((((w9.setCell ⟨q2, 0, none⟩ (.int .i64 (k : Int))).setCell ⟨q2, 1, none⟩ (.int .i64 (n : Int))).setCell ⟨q2, 2, none⟩ (.int .i64 (i : Int))).setCell ⟨q2, 3, none⟩ (.int .i64 ((0 : Nat) : Int))).setCell ⟨q2, 4, none⟩ (.slice pc b.length cc)) := ⟨_, rfl⟩
      have HZ : Hid (Kp (fun _ => False) w wz ∧ Rb wz pc b.length b) := by rw [hwz]; exact ⟨kz, rz⟩
      have lz2 : Lv wz q2 [.int .i64 (k : Int), .int .i64 (n : Int), .int .i64 (i : Int), .int .i64 0, .slice pc b.length cc] := by rw [hwz]; exact lz
      clear hch kz lz rz HRz HRc HPq HSr HW a9 f9
      simp only [Act.put, List.setIfInBounds_toArray, List.set_cons_succ, List.set_cons_zero]
      have d0 := lz2.cell (j := 0) rfl
      have d1 := lz2.cell (j := 1) rfl
      have d2 := lz2.cell (j := 2) rfl
      have d3 := lz2.cell (j := 3) rfl
      have d4 := lz2.cell (j := 4) rfl
      rw [← hwz]
      clear hwz
      have HLd : Hid ((loadVar 122 ⟨q2, 0, none⟩).run Tryz.prog wz = .ok (.agg #[.int .i64 (k : Int), .int .i64 (n : Int), .int .i64 (i : Int), .int .i64 0, .slice pc b.length cc]) wz) := lz2.load ⟨_, Tryz.underlying122, rfl⟩ szRec rfl
      go_wp2_with fail
      refine bodyPost_ret (res_cell_tmp Tryz.results62 _ _ q2 _ rfl HLd.out) rfl ?_
      exact ⟨pc, cc, rfl, HZ.out.1, HZ.out.2, HPc.out⟩
end Go.Proofs.YtippipeebkkghaaGreatDoor
