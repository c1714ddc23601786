/- Texts of this proof, joined: Jp, Wo. -/
import Derived.Test.YtblaabjjcanifaaGreatDoorMgBT
import Derived.Test.YtblaabjjcanifaaGreatDoorMgAK
/- SameHeld: rows of what is held, held against each other. -/
namespace Go.Proofs.YtblaabjjcanifaaGreatDoor
set_option linter.unusedVariables false
set_option linter.unusedSimpArgs false
open Go.RowKit Go.Deep Go.Maps

def rc0 : Rc := ⟨0, 0, 0, 0, []⟩
/-- what is told of a record that is held -/
def keyR (r : Rc) : Nat × Nat × List Nat := (r.n, r.i, r.b)
/-- a row of what is held, as it reads -/
def Hd (w : World) (p : Option Addr) (rs : List Rc) : Prop := ∀ j, j < rs.length → ∃ g o q c, p = some ⟨g, o, none⟩ ∧ w.cell? ⟨g, o + j * 3, none⟩ = some (.int .i64 ((rs.getD j rc0).n : Int)) ∧ w.cell? ⟨g, o + j * 3 + 1, none⟩ = some (.int .i64 ((rs.getD j rc0).i : Int)) ∧ w.cell? ⟨g, o + j * 3 + 2, none⟩ = some (.slice q (rs.getD j rc0).b.length c) ∧ Rb w q (rs.getD j rc0).b.length (rs.getD j rc0).b
theorem Hd.keep0 {w w' : World} {p : Option Addr} {rs : List Rc} (h : Hd w p rs) (k : Kp (fun _ => False) w w') : Hd w' p rs := fun j hj => by
  obtain ⟨g, o, q, c, e, c0, c1, c2, hr⟩ := h j hj
  exact ⟨g, o, q, c, e, k.cellv c0 id, k.cellv c1 id, k.cellv c2 id, hr.keep0 k⟩
theorem hfl_get : ∀ (ps : List (Rc × Value)) (j : Nat) (h : j < ps.length), (hfl ps)[j * 3]? = some (.int .i64 (ps[j].1.n : Int)) ∧ (hfl ps)[j * 3 + 1]? = some (.int .i64 (ps[j].1.i : Int)) ∧ (hfl ps)[j * 3 + 2]? = some ps[j].2
  | x :: l, 0, _ => ⟨rfl, rfl, rfl⟩
  | x :: l, j + 1, h => by
    have := hfl_get l j (by simpa using h)
    refine ⟨?_, ?_, ?_⟩
    · show (_ :: _ :: _ :: hfl l)[(j + 1) * 3]? = _
      rw [show (j + 1) * 3 = j * 3 + 1 + 1 + 1 by omega, List.getElem?_cons_succ, List.getElem?_cons_succ, List.getElem?_cons_succ, this.1]; rfl
    · show (_ :: _ :: _ :: hfl l)[(j + 1) * 3 + 1]? = _
      rw [show (j + 1) * 3 + 1 = j * 3 + 1 + 1 + 1 + 1 by omega, List.getElem?_cons_succ, List.getElem?_cons_succ, List.getElem?_cons_succ, this.2.1]; rfl
    · show (_ :: _ :: _ :: hfl l)[(j + 1) * 3 + 2]? = _
      rw [show (j + 1) * 3 + 2 = j * 3 + 2 + 1 + 1 + 1 by omega, List.getElem?_cons_succ, List.getElem?_cons_succ, List.getElem?_cons_succ, this.2.2]; rfl
theorem Hr.hd {w : World} {base : Nat} {v : Value} {ps : List (Rc × Value)} (h : Hr w base v ps) : ∃ p cap, v = .slice p (ps.map Prod.fst).length cap ∧ Hd w p (ps.map Prod.fst) := by
  rw [List.length_map]
  rcases Joins.ownsRow_forms h.1 with ⟨e1, e2⟩ | ⟨g, cap, e⟩
  · refine ⟨none, 0, by rw [e1, e2], fun j hj => ?_⟩
    rw [List.length_map] at hj
    omega
  · refine ⟨_, cap, e, fun j hj => ?_⟩
    rw [List.length_map] at hj
    have hj2 : (ps.map Prod.fst).getD j rc0 = ps[j].1 := by
      rw [List.getD_eq_getElem?_getD, List.getElem?_map, List.getElem?_eq_getElem hj]
      rfl
    rw [hj2]
    have hm := h.2 ps[j] (List.getElem_mem hj)
    obtain ⟨q, c, eu, _, hr, _⟩ := hm.1.rb hm.2.1
    obtain ⟨f0, f1, f2⟩ := hfl_get ps j hj
    have h1 := h.1
    rw [e] at h1
    have k0 := h1.cells (g := g) rfl _ _ f0
    have k1 := h1.cells (g := g) rfl _ _ f1
    have k2 := h1.cells (g := g) rfl _ _ f2
    rw [Addr.add_mid, Nat.zero_add] at k0 k1 k2
    rw [eu] at k2
    exact ⟨g, 0, q, c, rfl, by rw [Nat.zero_add]; exact k0, by rw [Nat.zero_add]; exact k1, by rw [Nat.zero_add]; exact k2, hr⟩

set_option maxRecDepth 100000 in
set_option maxHeartbeats 1600000 in
theorem samehd_ok (r s : Rc) (q1 q2 : Option Addr) (c1 c2 : Nat) (w : World) (h1 : Rb w q1 r.b.length r.b) (h2 : Rb w q2 s.b.length s.b) :
    Calls Tryz.prog 28 #[.agg #[.int .i64 (r.n : Int), .int .i64 (r.i : Int), .slice q1 r.b.length c1], .agg #[.int .i64 (s.n : Int), .int .i64 (s.i : Int), .slice q2 s.b.length c2]] w fun e w' => e = .returned (.bool (decide (keyR r = keyR s))) ∧ Kp (fun _ => False) w w' := by
  obtain ⟨w1, hw1⟩ : ∃ x, x = w.alloc (.cells #[.int .i64 (r.n : Int), .int .i64 (r.i : Int), .slice q1 r.b.length c1] 41) := ⟨_, rfl⟩
  obtain ⟨w2, hw2⟩ : ∃ x, x = w1.alloc (.cells #[.int .i64 (s.n : Int), .int .i64 (s.i : Int), .slice q2 s.b.length c2] 41) := ⟨_, rfl⟩
  have k1 : Kp (fun _ => False) w w1 := by rw [hw1]; exact (Kp.refl _ _).alloc _
  have k2 : Kp (fun _ => False) w1 w2 := by rw [hw2]; exact (Kp.refl _ _).alloc _
  have K2 : Kp (fun _ => False) w w2 := k1.trans k2 (fun _ _ e => e)
  have HEq : Hid (Calls Tryz.prog 20 #[.slice q1 r.b.length c1, .slice q2 s.b.length c2] w2 fun e w' => e = .returned (.bool (decide (r.b = s.b))) ∧ w' = w2) := equal_any c1 c2 w2 (h1.keep0 K2) (h2.keep0 K2)
  have HK : Hid (Kp (fun _ => False) w w2) := K2
  have hw : (w.alloc (.cells #[.int .i64 (r.n : Int), .int .i64 (r.i : Int), .slice q1 r.b.length c1] 41)).alloc (.cells #[.int .i64 (s.n : Int), .int .i64 (s.i : Int), .slice q2 s.b.length c2] 41) = w2 := by rw [hw2, hw1]
  clear hw1 hw2 k1 k2 K2 h1 h2
  obtain ⟨B, hB⟩ : ∃ B, B = decide (r.b = s.b) := ⟨_, rfl⟩
  have HD : Hid (decide (keyR r = keyR s) = (decide (r.n = s.n) && (decide (r.i = s.i) && B))) := by
    show _ = _
    rw [hB]
    unfold keyR
    simp only [Prod.mk.injEq, Bool.decide_and]
  rw [← hB] at HEq
  rw [HD.out]
  clear hB HD
  subst hw
  obtain ⟨rk, rn, ri, re, rb⟩ := r
  obtain ⟨sk, sn, si, se, sb⟩ := s
  dsimp only at HEq HK ⊢
  by_cases e1 : rn = sn
  · subst e1
    rw [decide_eq_true rfl, Bool.true_and]
    by_cases e2 : ri = si
    · subst e2
      rw [decide_eq_true rfl, Bool.true_and]
      go_enter Tryz.func28, Tryz.ntmps28
      go_wp2_with fail
      refine HEq.out.mono ?_
      rintro e9 w9 ⟨rfl, hw9⟩
      have hw8 := hw9.symm
      subst hw8
      clear hw9 HEq
      go_wp2
      go_ret
      exact ⟨rfl, HK.out⟩
    · have f2 : ¬ (ri : Int) = (si : Int) := by omega
      rw [decide_eq_false e2, Bool.false_and]
      go_enter Tryz.func28, Tryz.ntmps28
      go_wp2
      go_ret
      exact ⟨rfl, HK.out⟩
  · have f1 : ¬ (rn : Int) = (sn : Int) := by omega
    rw [decide_eq_false e1, Bool.false_and]
    go_enter Tryz.func28, Tryz.ntmps28
    go_wp2
    go_ret
    exact ⟨rfl, HK.out⟩

theorem map_eq_iff {a b : List Rc} : a.map keyR = b.map keyR ↔ a.length = b.length ∧ ∀ i, i < a.length → keyR (a.getD i rc0) = keyR (b.getD i rc0) := by
  constructor
  · intro e
    have hl : a.length = b.length := by simpa using congrArg List.length e
    refine ⟨hl, fun i hi => ?_⟩
    have h1 : (a.map keyR)[i]? = (b.map keyR)[i]? := by rw [e]
    rw [List.getElem?_map, List.getElem?_map, List.getElem?_eq_getElem hi, List.getElem?_eq_getElem (show i < b.length by omega)] at h1
    rw [List.getD_eq_getElem?_getD, List.getD_eq_getElem?_getD, List.getElem?_eq_getElem hi, List.getElem?_eq_getElem (show i < b.length by omega)]
    exact Option.some.inj h1
  · rintro ⟨hl, h⟩
    refine List.ext_getElem? fun i => ?_
    rw [List.getElem?_map, List.getElem?_map]
    by_cases hi : i < a.length
    · have := h i hi
      rw [List.getD_eq_getElem?_getD, List.getD_eq_getElem?_getD] at this
      rw [List.getElem?_eq_getElem hi, List.getElem?_eq_getElem (show i < b.length by omega)] at this ⊢
      exact congrArg some this
    · rw [List.getElem?_eq_none (by omega), List.getElem?_eq_none (by omega)]

set_option maxRecDepth 100000 in
set_option maxHeartbeats 3200000 in
theorem eqf_hd (p1 p2 : Option Addr) (c1 c2 : Nat) (a b : List Rc) (w : World) (h1 : Hd w p1 a) (h2 : Hd w p2 b) (hl : a.length ≤ 2000 ∧ b.length ≤ 2000) :
    Calls Tryz.prog 27 #[.slice p1 a.length c1, .slice p2 b.length c2, .func (.func 28) #[] #[]] w fun e w' => e = .returned (.bool (decide (a.map keyR = b.map keyR))) ∧ Kp (fun _ => False) w w' := by
  obtain ⟨L, hL⟩ : ∃ L, L = a.length := ⟨_, rfl⟩
  obtain ⟨M, hM⟩ : ∃ M, M = b.length := ⟨_, rfl⟩
  have HL : Hid (L = a.length ∧ M = b.length ∧ L ≤ 2000 ∧ M ≤ 2000) := ⟨hL, hM, by omega, by omega⟩
  rw [← hL, ← hM]
  have H1 : Hid (Hd w p1 a) := h1
  have H2 : Hid (Hd w p2 b) := h2
  clear h1 h2 hl hL hM
  by_cases hLM : L = M
  · subst hLM
    go_enter Tryz.func27, Tryz.ntmps27
    go_wp2
    go_loopg [17] L (fun gk i wr => ∃ k : Nat, k ≤ L ∧ gk = L - k ∧ i = .int .i64 k ∧ Hid (Kp (fun _ => False) w wr ∧ ∀ i, i < k → keyR (a.getD i rc0) = keyR (b.getD i rc0)))
    case atStart => exact ⟨0, Nat.zero_le _, rfl, rfl, Kp.refl _ _, fun i hi => absurd hi (Nat.not_lt_zero _)⟩
    case round =>
      obtain ⟨k, hk, rfl, rfl, HK⟩ := hrel
      by_cases hlt : k < L
      · have hlt2 : (k : Int) < (L : Int) := by omega
        obtain ⟨g1, o1, q1, d1, hp1, x0, x1, x2, xr⟩ := (H1.out.keep0 HK.out.1) k (by have := HL.out; omega)
        obtain ⟨g2, o2, q2, d2, hp2, y0, y1, y2, yr⟩ := (H2.out.keep0 HK.out.1) k (by have := HL.out; omega)
        have HSt : Hid ((∀ i, i < k + 1 → keyR (a.getD i rc0) = keyR (b.getD i rc0)) ↔ keyR (a.getD k rc0) = keyR (b.getD k rc0)) := by
          refine ⟨fun h => h k (by omega), fun h i hi => ?_⟩
          by_cases hik : i = k
          · rw [hik]; exact h
          · exact HK.out.2 i (by omega)
        have HBad : Hid (¬ keyR (a.getD k rc0) = keyR (b.getD k rc0) → ¬ a.map keyR = b.map keyR) := fun hne e => hne ((map_eq_iff.1 e).2 k (by have := HL.out; omega))
        obtain ⟨r, hr⟩ : ∃ r, r = a.getD k rc0 := ⟨_, rfl⟩
        obtain ⟨s, hs⟩ : ∃ s, s = b.getD k rc0 := ⟨_, rfl⟩
        rw [← hr] at x0 x1 x2 xr HSt HBad
        rw [← hs] at y0 y1 y2 yr HSt HBad
        have HSv : Hid (∀ u, Kp (fun _ => False) wr u → Calls Tryz.prog 28 #[.agg #[.int .i64 (r.n : Int), .int .i64 (r.i : Int), .slice q1 r.b.length d1], .agg #[.int .i64 (s.n : Int), .int .i64 (s.i : Int), .slice q2 s.b.length d2]] u fun e w' => e = .returned (.bool (decide (keyR r = keyR s))) ∧ Kp (fun _ => False) u w') := fun u ku => samehd_ok r s q1 q2 d1 d2 u (xr.keep0 ku) (yr.keep0 ku)
        have HK1 : Hid (wrap64 ((k : Int) + 1) = ((k + 1 : Nat) : Int)) := by have := HL.out; show _ = _; unfold wrap64; omega
        have hw1 := HK1.out
        subst hp1
        subst hp2
        clear xr yr hr hs hlt
        have ka : Kp (fun _ => False) wr (wr.alloc (.cells #[.int .i64 (r.n : Int), .int .i64 (r.i : Int), .slice q1 r.b.length d1] 41)) := (Kp.refl _ _).alloc _
        have z0 := ka.cellv y0 id
        have z1 := ka.cellv y1 id
        have z2 := ka.cellv y2 id
        clear ka y0 y1 y2
        have k12 : ∀ o o' : Obj, Kp (fun _ => False) wr ((wr.alloc o).alloc o') := fun o o' => ((Kp.refl _ _).alloc _).alloc _
        by_cases hq : keyR r = keyR s
        · rw [decide_eq_true hq] at HSv
          go_wp2_with fail
          refine (HSv.out _ (k12 _ _)).mono ?_
          rintro e9 w9 ⟨rfl, k9⟩
          have HK9 : Hid (Kp (fun _ => False) w w9) := (HK.out.1.trans (k12 _ _) (fun _ _ e => e)).trans k9 (fun _ _ e => e)
          clear k9 k12 HSv
          go_wp2
          go_roundg (L - (k + 1))
          case rel => exact ⟨k + 1, by omega, rfl, by first | rw [hw1] | simp, HK9.out, HSt.out.2 hq⟩
          case measure => omega
        · rw [decide_eq_false hq] at HSv
          have HN : Hid (decide (a.map keyR = b.map keyR) = false) := decide_eq_false (HBad.out hq)
          go_wp2_with fail
          refine (HSv.out _ (k12 _ _)).mono ?_
          rintro e9 w9 ⟨rfl, k9⟩
          have HK9 : Hid (Kp (fun _ => False) w w9) := (HK.out.1.trans (k12 _ _) (fun _ _ e => e)).trans k9 (fun _ _ e => e)
          clear k9 k12 HSv
          go_wp2
          go_ret
          exact ⟨by rw [HN.out]; rfl, HK9.out⟩
      · have hlt2 : ¬ (k : Int) < (L : Int) := by omega
        have HN : Hid (decide (a.map keyR = b.map keyR) = true) := decide_eq_true (map_eq_iff.2 ⟨by have := HL.out; omega, fun i hi => HK.out.2 i (by have := HL.out; omega)⟩)
        go_wp2
        go_ret
        exact ⟨by rw [HN.out]; rfl, HK.out.1⟩
  · have h9 : ¬ (L : Int) = (M : Int) := by omega
    have HN : Hid (decide (a.map keyR = b.map keyR) = false) := decide_eq_false (fun e => by have := (map_eq_iff.1 e).1; have := HL.out; omega)
    go_enter Tryz.func27, Tryz.ntmps27
    go_wp2
    go_ret
    exact ⟨by rw [HN.out]; rfl, Kp.refl _ _⟩

set_option maxRecDepth 100000 in
theorem sameHeld_ok {b1 b2 : Nat} {v1 v2 : Value} {a b : List (Rc × Value)} {w : World} (h1 : Hr w b1 v1 a) (h2 : Hr w b2 v2 b) (hl : a.length ≤ 2000 ∧ b.length ≤ 2000) :
    Calls Tryz.prog 11 #[v1, v2] w fun e w' => e = .returned (.bool (decide ((a.map Prod.fst).map keyR = (b.map Prod.fst).map keyR))) ∧ Kp (fun _ => False) w w' := by
  obtain ⟨p1, c1, e1, d1⟩ := h1.hd
  obtain ⟨p2, c2, e2, d2⟩ := h2.hd
  have H : Hid (Calls _ _ _ w _) := eqf_hd p1 p2 c1 c2 _ _ w d1 d2 (by rw [List.length_map, List.length_map]; exact hl)
  rw [← e1, ← e2] at H
  obtain ⟨B, hB⟩ : ∃ B, B = decide ((a.map Prod.fst).map keyR = (b.map Prod.fst).map keyR) := ⟨_, rfl⟩
  rw [← hB] at H ⊢
  clear e1 e2 d1 d2 h1 h2 hl hB
  go_enter Tryz.func11, Tryz.ntmps11
  go_wp2_with fail
  refine H.out.mono ?_
  rintro e9 w9 ⟨rfl, k9⟩
  clear H
  go_wp2
  go_ret
  exact ⟨rfl, k9⟩
end Go.Proofs.YtblaabjjcanifaaGreatDoor

/- Regions that draw their order, whose operations add to the world, or write over what one earlier operation made: each is taken by one at most. -/
namespace Go.Proofs.YtblaabjjcanifaaGreatDoor
set_option linter.unusedVariables false
open Go.RowKit Go.Deep

section
variable {P : Program} {ops : Array Oper} {Q : Exit → Act → World → Prop}
/-- the parts of such a region: n slots, B of the acts, R of what is yielded, D where it lies, E which one an operation takes, Bl the block that one made, U whose results it uses -/
structure Owr where
  n : Nat
  B : (Nat → Bool) → Act → Prop
  R : Nat → Value → World → Prop
  D : Nat → Nat
  E : Nat → Option Nat
  Bl : Nat → Value → Option Nat
  U : Nat → List Nat
  T : List (Oper × List Nat)
/-- what must be shown of the k-th operation -/
def Owr.Step (c : Owr) (P : Program) (Q : Exit → Act → World → Prop) (w0 : World) (k : Nat) (o : Oper) (l : List Nat) : Prop :=
  o.dst = some (c.D k) ∧ o.guard = none ∧ (∀ j ∈ l, j < k) ∧ c.D k < c.n ∧ (∀ j, c.E k = some j → j ∈ c.U k) ∧ (∀ j ∈ c.U k, j ∈ l) ∧
  ∀ (L : Nat → Bool) (a : Act) (w : World), a.tmps.size = c.n → L k = false → (∀ i ol, c.T[i]? = some ol → L i = true → ∀ j ∈ ol.2, L j = true) → c.B L a → Kp (fun _ => False) w0 w →
    (∀ j ∈ c.U k, c.R j (a.eval (.tmp (c.D j))) w ∧ ∀ g, c.Bl j (a.eval (.tmp (c.D j))) = some g → w0.heap.size ≤ g ∧ g < w.heap.size) →
    ∀ K : Act → World → Prop, Shut (∀ v w', Kp (fun b => ∃ j, c.E k = some j ∧ c.Bl j (a.eval (.tmp (c.D j))) = some b) w w' → c.R k v w' →
      (∀ g, c.Bl k v = some g → (∃ j, c.E k = some j ∧ c.Bl j (a.eval (.tmp (c.D j))) = some g) ∨ (w.heap.size ≤ g ∧ g < w'.heap.size)) → K (a.put (some (c.D k)) v) w') → Oper.wp P o a w K Q
def Owr.Steps (c : Owr) (P : Program) (Q : Exit → Act → World → Prop) (w0 : World) : Nat → List (Oper × List Nat) → Prop
  | _, [] => True
  | k, (o, l) :: t => c.Step P Q w0 k o l ∧ c.Steps P Q w0 (k + 1) t
theorem Owr.Steps.get {c : Owr} {w0 : World} : ∀ (t : List (Oper × List Nat)) (k i : Nat) (o : Oper) (l : List Nat), c.Steps P Q w0 k t → t[i]? = some (o, l) → c.Step P Q w0 (k + i) o l
  | [], _, _, _, _, _, h => by simp at h
  | x :: t, k, 0, o, l, h, hi => by
    simp at hi
    subst hi
    exact h.1
  | x :: t, k, i + 1, o, l, h, hi => by
    have := Owr.Steps.get t (k + 1) i o l h.2 (by simpa using hi)
    rw [show k + (i + 1) = k + 1 + i by omega]
    exact this
theorem own_region (c : Owr) {id : Nat} {a0 : Act} {y : World} (hm : P.follows .mixedOrders = true) (hT : ops.toList.map (fun o => (bare o, deps o)) = c.T) (hn : a0.tmps.size = c.n) (hB : c.B (fun _ => false) a0)
    (hBp : ∀ k v a L, k < c.T.length → L k = false → c.B L a → c.B (fun i => if i = k then true else L i) (a.put (some (c.D k)) v))
    (hD : ∀ i j, i < c.T.length → j < c.T.length → c.D i = c.D j → i = j)
    (hE : ∀ k k', k < c.T.length → k' < c.T.length → ∀ j, c.E k = some j → j ∈ c.U k' → k' = k)
    (hR : ∀ i v w w' S, c.R i v w → Kp S w w' → (∀ g, c.Bl i v = some g → ¬ S g) → c.R i v w')
    (hs : c.Steps P Q y.drew 0 c.T)
    (hend : ∀ L a w, a.tmps.size = c.n → c.B L a → Kp (fun _ => False) y.drew w → (∀ i, i < c.T.length → (∀ k, k < c.T.length → c.E k ≠ some i) → c.R i (a.eval (.tmp (c.D i))) w ∧ ∀ g, c.Bl i (a.eval (.tmp (c.D i))) = some g → y.drew.heap.size ≤ g ∧ g < w.heap.size) → Q .normal a w) :
    (Code.region id ops true).wp P Q a0 y := by
  have hTl : c.T.length = ops.size := by rw [← hT]; simp
  have hTi : ∀ (i : Nat) (o : Oper), ops[i]? = some o → c.T[i]? = some (bare o, deps o) := fun i o ho => by
    rw [← hT, List.getElem?_map]
    simp [ho]
  have hst : ∀ (i : Nat) (o : Oper), ops[i]? = some o → c.Step P Q y.drew i (bare o) (deps o) := fun i o ho => by
    have := Owr.Steps.get c.T 0 i _ _ hs (hTi i o ho)
    rwa [Nat.zero_add] at this
  refine wp_region_held_drew (S := fun _ => True) hm trivial (fun _ => ?_)
  refine wpAnyH_inv (fun listed a w => a.tmps.size = c.n ∧ (c.B (fun i => listed.getD i false) a ∧ ∀ i o, ops[i]? = some o → listed.getD i false = true → ∀ j ∈ deps o, listed.getD j false = true) ∧ listed.size = ops.size ∧ Kp (fun _ => False) y.drew w ∧
    (∀ i, i < ops.size → listed.getD i false = true → (∀ k, k < ops.size → c.E k = some i → listed.getD k false = false) → c.R i (a.eval (.tmp (c.D i))) w ∧ ∀ g, c.Bl i (a.eval (.tmp (c.D i))) = some g → y.drew.heap.size ≤ g ∧ g < w.heap.size) ∧
    ∀ i, i < ops.size → listed.getD i false = true → (∀ k, k < ops.size → c.E k = some i → listed.getD k false = false) → ∀ j, j < ops.size → listed.getD j false = true → (∀ k, k < ops.size → c.E k = some j → listed.getD k false = false) → i ≠ j → ∀ g, c.Bl i (a.eval (.tmp (c.D i))) = some g → c.Bl j (a.eval (.tmp (c.D j))) = some g → False) ?_ ?_ _ _ _ _ ?_ ?_
  · rintro listed a w i ⟨h1, ⟨h2, hcl⟩, h3, h4, h5, h6⟩ hi
    obtain ⟨hu, o, ho, hall⟩ := mem_ready.1 hi
    have hlt := (Array.getElem?_eq_some_iff.1 ho).1
    have hul : listed.getD i false = false := by
      have hsz : i < listed.size := by omega
      simpa [hsz] using hu
    obtain ⟨hdo, hg, hj, hdn, hEi, hU, hw⟩ := hst i o ho
    unfold wpOp
    rw [ho]
    dsimp only
    have hlist : ∀ j ∈ c.U i, j < ops.size ∧ listed.getD j false = true ∧ (∀ k, k < ops.size → c.E k = some j → listed.getD k false = false) := fun j hmem => by
      have hjl := hU j hmem
      have hjlt := hj j hjl
      obtain ⟨e, he, rfl⟩ := List.mem_map.1 hjl
      obtain ⟨he1, he2⟩ := List.mem_filter.1 he
      refine ⟨Nat.lt_trans hjlt hlt, hall e (by simpa using he1) he2, fun k hk hek => ?_⟩
      have := hE k i (by omega) (by omega) _ hek hmem
      rw [← this]
      exact hul
    have hdep : ∀ j ∈ c.U i, c.R j (a.eval (.tmp (c.D j))) w ∧ ∀ g, c.Bl j (a.eval (.tmp (c.D j))) = some g → y.drew.heap.size ≤ g ∧ g < w.heap.size := fun j hjl => h5 j (hlist j hjl).1 (hlist j hjl).2.1 (hlist j hjl).2.2
    have hset : ∀ j, j ≠ i → (listed.setIfInBounds i true).getD j false = listed.getD j false := fun j hji => by
      simp [Array.getElem?_setIfInBounds_ne (fun e => hji e.symm)]
    have hseti : (listed.setIfInBounds i true).getD i false = true := by
      have hsz : i < listed.size := by omega
      simp [hsz]
    have halive : ∀ j, (∀ k, k < ops.size → c.E k = some j → (listed.setIfInBounds i true).getD k false = false) → (∀ k, k < ops.size → c.E k = some j → listed.getD k false = false) ∧ c.E i ≠ some j := fun j hA => by
      refine ⟨fun k hk hek => ?_, fun e => ?_⟩
      · by_cases e : k = i
        · rw [e]; exact hul
        · rw [← hset k e]; exact hA k hk hek
      · have := hA i hlt e
        rw [hseti] at this
        cases this
    rw [if_pos (wanted_none (o := o) hg)]
    refine Or.inl ?_
    rw [← wp_bare]
    refine hw (fun i => listed.getD i false) a w h1 hul (fun i' ol hol hl j hjl => ?_) h2 h4 hdep _ ?_
    · have hlt' : i' < ops.size := by rw [← hTl]; exact (List.getElem?_eq_some_iff.1 hol).1
      have ho' := Array.getElem?_eq_getElem hlt'
      have h9 := hTi i' _ ho'
      rw [hol] at h9
      injection h9 with h9
      subst h9
      exact hcl i' _ ho' hl j hjl
    intro v w' hk hv hbl
    have hdl : ∀ j ∈ deps o, listed.getD j false = true := fun j hjl => by
      obtain ⟨e, he, rfl⟩ := List.mem_map.1 hjl
      obtain ⟨he1, he2⟩ := List.mem_filter.1 he
      exact hall e (by simpa using he1) he2
    have hmono : ∀ j, listed.getD j false = true → (listed.setIfInBounds i true).getD j false = true := fun j hj2 => by
      by_cases e : j = i
      · rw [e]; exact hseti
      · rw [hset j e]; exact hj2
    have hcl' : ∀ i' o', ops[i']? = some o' → (listed.setIfInBounds i true).getD i' false = true → ∀ j ∈ deps o', (listed.setIfInBounds i true).getD j false = true := fun i' o' ho' hl' j hj2 => by
      by_cases e : i' = i
      · subst e
        rw [ho] at ho'
        cases ho'
        exact hmono j (hdl j hj2)
      · rw [hset i' e] at hl'
        exact hmono j (hcl i' o' ho' hl' j hj2)
    have hfun : (fun j => (listed.setIfInBounds i true).getD j false) = fun j => if j = i then true else listed.getD j false := by
      funext j
      by_cases e : j = i
      · rw [if_pos e, e]; exact hseti
      · rw [if_neg e]; exact hset j e
    obtain ⟨p1, p2, p3, p4⟩ := act_put a (c.D i) v (by rw [h1]; exact hdn)
    have hsz' := hk.size
    have hother : ∀ j, j < ops.size → j ≠ i → (a.put (some (c.D i)) v).eval (.tmp (c.D j)) = a.eval (.tmp (c.D j)) := fun j hjs hji => p4 (c.D j) (fun h => hji (hD j i (by omega) (by omega) h))
    refine ⟨p1.trans h1, ⟨by rw [hfun]; exact hBp i v a _ (by omega) hul h2, hcl'⟩, by rw [Array.size_setIfInBounds]; exact h3, ?_, ?_, ?_⟩
    · refine h4.trans hk (fun b hb e => ?_)
      obtain ⟨j, hej, hbj⟩ := e
      have := ((hdep j (hEi j hej)).2 b hbj).1
      omega
    · intro j hjs hl hA
      by_cases e : j = i
      · subst e
        rw [p3]
        refine ⟨hv, fun g hg => ?_⟩
        rcases hbl g hg with ⟨q, hq1, hq2⟩ | hq
        · have := (hdep q (hEi q hq1)).2 g hq2
          omega
        · have := h4.size
          omega
      · rw [hother j hjs e]
        obtain ⟨hA1, hA2⟩ := halive j hA
        rw [hset j e] at hl
        obtain ⟨r1, r2⟩ := h5 j hjs hl hA1
        refine ⟨hR j _ w w' _ r1 hk (fun g hg hS => ?_), fun g hg => by have := r2 g hg; omega⟩
        obtain ⟨q, hq1, hq2⟩ := hS
        have hql := hlist q (hEi q hq1)
        exact h6 j hjs hl hA1 q hql.1 hql.2.1 hql.2.2 (fun e2 => hA2 (by rw [e2]; exact hq1)) g hg hq2
    · have key : ∀ j, j < ops.size → (listed.setIfInBounds i true).getD j false = true → (∀ k, k < ops.size → c.E k = some j → (listed.setIfInBounds i true).getD k false = false) → j ≠ i → ∀ g, c.Bl i v = some g → c.Bl j (a.eval (.tmp (c.D j))) = some g → False := fun j hjs hl hA e g hg1 hg2 => by
        obtain ⟨hA1, hA2⟩ := halive j hA
        rw [hset j e] at hl
        rcases hbl g hg1 with ⟨q, hq1, hq2⟩ | hq
        · have hql := hlist q (hEi q hq1)
          exact h6 j hjs hl hA1 q hql.1 hql.2.1 hql.2.2 (fun e2 => hA2 (by rw [e2]; exact hq1)) g hg2 hq2
        · have := ((h5 j hjs hl hA1).2 g hg2).2
          omega
      intro j hjs hl hA q hqs hql hqA hne g hg1 hg2
      by_cases e : j = i
      · subst e
        rw [p3] at hg1
        rw [hother q hqs (fun e => hne e.symm)] at hg2
        exact key q hqs hql hqA (fun e => hne e.symm) g hg1 hg2
      · by_cases e2 : q = i
        · subst e2
          rw [p3] at hg2
          rw [hother j hjs e] at hg1
          exact key j hjs hl hA e g hg2 hg1
        · rw [hother j hjs e] at hg1
          rw [hother q hqs e2] at hg2
          rw [hset j e] at hl
          rw [hset q e2] at hql
          exact h6 j hjs hl (halive j hA).1 q hqs hql (halive q hqA).1 hne g hg1 hg2
  · rintro listed a w ⟨h1, ⟨h2, _⟩, h3, h4, h5, h6⟩ hr
    have hall : ∀ m i, i < m → i < ops.size → listed.getD i false = true := by
      intro m
      induction m with
      | zero => intro i hi; omega
      | succ m ih =>
        intro i hi hs'
        by_cases e : i < m
        · exact ih i e hs'
        · cases hl : listed.getD i false with
          | true => rfl
          | false =>
            have hac := (hst i ops[i] (Array.getElem?_eq_getElem hs')).2.2.1
            have hmem : i ∈ Region.ready .any ops listed := by
              refine mem_ready.2 ⟨?_, ops[i], Array.getElem?_eq_getElem hs', fun e' he' hb' => ?_⟩
              · have hsz : i < listed.size := by omega
                simpa [hsz] using hl
              · have hlt := hac e'.on (List.mem_map.2 ⟨e', List.mem_filter.2 ⟨by simpa using he', hb'⟩, rfl⟩)
                exact ih e'.on (by omega) (by omega)
            rw [hr] at hmem
            cases hmem
    exact hend _ a w h1 h2 h4 (fun i hi hne => h5 i (by omega) (hall (i + 1) i (by omega) (by omega)) (fun k hk hek => absurd hek (hne k (by omega))))
  · unfold leftN
    have := List.countP_le_length (p := fun i => !(Array.replicate ops.size false).getD i true) (l := List.range ops.size)
    rw [List.length_range] at this
    exact this
  · have hz : ∀ i, (Array.replicate ops.size false).getD i false = false := fun i => by
      by_cases h : i < ops.size <;> simp [h]
    refine ⟨hn, ⟨by rw [show (fun i => (Array.replicate ops.size false).getD i false) = fun _ => false from funext hz]; exact hB, fun i o ho hl => ?_⟩, by simp, Kp.refl _ _, fun i hi hl => ?_, fun i hi hl => ?_⟩ <;> (rw [hz] at hl; cases hl)
end
end Go.Proofs.YtblaabjjcanifaaGreatDoor
