/- Texts of this proof, joined: Jp, Jq. -/
import Derived.Test.YtmooddbhcccicaaGreatDoorMgBU
import Derived.Test.YtmooddbhcccicaaGreatDoorMgBR
/- SameHeld: rows of what is held, held against each other. -/
namespace Go.Proofs.YtmooddbhcccicaaGreatDoor
set_option linter.unusedVariables false
set_option linter.unusedSimpArgs false
open Go.RowKit Go.Deep Go.Maps

def rc0 : Rc := ⟨0, 0, 0, 0, []⟩
/-- what is told of a record that is held -/
def keyR (r : Rc) : Nat × Nat × List Nat := (r.n, r.i, r.b)
/-- a row of what is held, as it reads -/
def Hd (w : World) (p : Option Addr) (rs : List Rc) : Prop := ∀ j, j < rs.length → ∃ g o q c, p = some ⟨g, o, none⟩ ∧ w.cell? ⟨g, o + j * 3, none⟩ = some (.int .i64 ((rs.getD j rc0).n : Int)) ∧ w.cell? ⟨g, o + j * 3 + 1, none⟩ = some (.int .i64 ((rs.getD j rc0).i : Int)) ∧ w.cell? ⟨g, o + j * 3 + 2, none⟩ = some (.slice q (rs.getD j rc0).b.length c) ∧ Rb w q (rs.getD j rc0).b.length (rs.getD j rc0).b
theorem Hd.keep0 {w w' : World} {p : Option Addr} {rs : List Rc} (h : Hd w p rs) (k : Kp (fun _ => False) w w') : Hd w' p rs := fun j hj => by
  obtain ⟨g, o, q, c, e, c0, c1, c2, hr⟩ := h j hj
  exact ⟨g, o, q, c, e, k.cellv c0 id, k.cellv c1 id, k.cellv c2 id, hr.keep0 k⟩
theorem hfl_get : ∀ (ps : List (Rc × Value)) (j : Nat) (h : j < ps.length), (hfl ps)[j * 3]? = some (.int .i64 (ps[j].1.n : Int)) ∧ (hfl ps)[j * 3 + 1]? = some (.int .i64 (ps[j].1.i : Int)) ∧ (hfl ps)[j * 3 + 2]? = some ps[j].2
  | x :: l, 0, _ => ⟨rfl, rfl, rfl⟩
  | x :: l, j + 1, h => by
    have := hfl_get l j (by simpa using h)
    refine ⟨?_, ?_, ?_⟩
    · show (_ :: _ :: _ :: hfl l)[(j + 1) * 3]? = _
      rw [show (j + 1) * 3 = j * 3 + 1 + 1 + 1 by omega, List.getElem?_cons_succ, List.getElem?_cons_succ, List.getElem?_cons_succ, this.1]; rfl
    · show (_ :: _ :: _ :: hfl l)[(j + 1) * 3 + 1]? = _
      rw [show (j + 1) * 3 + 1 = j * 3 + 1 + 1 + 1 + 1 by omega, List.getElem?_cons_succ, List.getElem?_cons_succ, List.getElem?_cons_succ, this.2.1]; rfl
    · show (_ :: _ :: _ :: hfl l)[(j + 1) * 3 + 2]? = _
      rw [show (j + 1) * 3 + 2 = j * 3 + 2 + 1 + 1 + 1 by omega, List.getElem?_cons_succ, List.getElem?_cons_succ, List.getElem?_cons_succ, this.2.2]; rfl
theorem Hr.hd {w : World} {base : Nat} {v : Value} {ps : List (Rc × Value)} (h : Hr w base v ps) : ∃ p cap, v = .slice p (ps.map Prod.fst).length cap ∧ Hd w p (ps.map Prod.fst) := by
  rw [List.length_map]
  rcases Joins.ownsRow_forms h.1 with ⟨e1, e2⟩ | ⟨g, cap, e⟩
  · refine ⟨none, 0, by rw [e1, e2], fun j hj => ?_⟩
    rw [List.length_map] at hj
    omega
  · refine ⟨_, cap, e, fun j hj => ?_⟩
    rw [List.length_map] at hj
    have hj2 : (ps.map Prod.fst).getD j rc0 = ps[j].1 := by
      rw [List.getD_eq_getElem?_getD, List.getElem?_map, List.getElem?_eq_getElem hj]
      rfl
    rw [hj2]
    have hm := h.2 ps[j] (List.getElem_mem hj)
    obtain ⟨q, c, eu, _, hr, _⟩ := hm.1.rb hm.2.1
    obtain ⟨f0, f1, f2⟩ := hfl_get ps j hj
    have h1 := h.1
    rw [e] at h1
    have k0 := h1.cells (g := g) rfl _ _ f0
    have k1 := h1.cells (g := g) rfl _ _ f1
    have k2 := h1.cells (g := g) rfl _ _ f2
    rw [Addr.add_mid, Nat.zero_add] at k0 k1 k2
    rw [eu] at k2
    exact ⟨g, 0, q, c, rfl, by rw [Nat.zero_add]; exact k0, by rw [Nat.zero_add]; exact k1, by rw [Nat.zero_add]; exact k2, hr⟩

set_option maxRecDepth 100000 in
set_option maxHeartbeats 1600000 in
theorem samehd_ok (r s : Rc) (q1 q2 : Option Addr) (c1 c2 : Nat) (w : World) (h1 : Rb w q1 r.b.length r.b) (h2 : Rb w q2 s.b.length s.b) :
    Calls Tryz.prog 49 #[.agg #[.int .i64 (r.n : Int), .int .i64 (r.i : Int), .slice q1 r.b.length c1], .agg #[.int .i64 (s.n : Int), .int .i64 (s.i : Int), .slice q2 s.b.length c2]] w fun e w' => e = .returned (.bool (decide (keyR r = keyR s))) ∧ Kp (fun _ => False) w w' := by
  obtain ⟨w1, hw1⟩ : ∃ x, x = w.alloc (.cells #[.int .i64 (r.n : Int), .int .i64 (r.i : Int), .slice q1 r.b.length c1] 97) := ⟨_, rfl⟩
  obtain ⟨w2, hw2⟩ : ∃ x, x = w1.alloc (.cells #[.int .i64 (s.n : Int), .int .i64 (s.i : Int), .slice q2 s.b.length c2] 97) := ⟨_, rfl⟩
  have k1 : Kp (fun _ => False) w w1 := by rw [hw1]; exact (Kp.refl _ _).alloc _
  have k2 : Kp (fun _ => False) w1 w2 := by rw [hw2]; exact (Kp.refl _ _).alloc _
  have K2 : Kp (fun _ => False) w w2 := k1.trans k2 (fun _ _ e => e)
  have HEq : Hid (Calls Tryz.prog 20 #[.slice q1 r.b.length c1, .slice q2 s.b.length c2] w2 fun e w' => e = .returned (.bool (decide (r.b = s.b))) ∧ w' = w2) := equal_any c1 c2 w2 (h1.keep0 K2) (h2.keep0 K2)
  have HK : Hid (Kp (fun _ => False) w w2) := K2
  have hw : (w.alloc (.cells #[.int .i64 (r.n : Int), .int .i64 (r.i : Int), .slice q1 r.b.length c1] 97)).alloc (.cells #[.int .i64 (s.n : Int), .int .i64 (s.i : Int), .slice q2 s.b.length c2] 97) = w2 := by rw [hw2, hw1]
  clear hw1 hw2 k1 k2 K2 h1 h2
  obtain ⟨B, hB⟩ : ∃ B, B = decide (r.b = s.b) := ⟨_, rfl⟩
  have HD : Hid (decide (keyR r = keyR s) = (decide (r.n = s.n) && (decide (r.i = s.i) && B))) := by
    show _ = _
    rw [hB]
    unfold keyR
    simp only [Prod.mk.injEq, Bool.decide_and]
  rw [← hB] at HEq
  rw [HD.out]
  clear hB HD
  subst hw
  obtain ⟨rk, rn, ri, re, rb⟩ := r
  obtain ⟨sk, sn, si, se, sb⟩ := s
  dsimp only at HEq HK ⊢
  by_cases e1 : rn = sn
  · subst e1
    rw [decide_eq_true rfl, Bool.true_and]
    by_cases e2 : ri = si
    · subst e2
      rw [decide_eq_true rfl, Bool.true_and]
      go_enter Tryz.func49, Tryz.ntmps49
      go_wp2_with fail
      refine HEq.out.mono ?_
      rintro e9 w9 ⟨rfl, hw9⟩
      have hw8 := hw9.symm
      subst hw8
      clear hw9 HEq
      go_wp2
      go_ret
      exact ⟨rfl, HK.out⟩
    · have f2 : ¬ (ri : Int) = (si : Int) := by omega
      rw [decide_eq_false e2, Bool.false_and]
      go_enter Tryz.func49, Tryz.ntmps49
      go_wp2
      go_ret
      exact ⟨rfl, HK.out⟩
  · have f1 : ¬ (rn : Int) = (sn : Int) := by omega
    rw [decide_eq_false e1, Bool.false_and]
    go_enter Tryz.func49, Tryz.ntmps49
    go_wp2
    go_ret
    exact ⟨rfl, HK.out⟩

theorem map_eq_iff {a b : List Rc} : a.map keyR = b.map keyR ↔ a.length = b.length ∧ ∀ i, i < a.length → keyR (a.getD i rc0) = keyR (b.getD i rc0) := by
  constructor
  · intro e
    have hl : a.length = b.length := by simpa using congrArg List.length e
    refine ⟨hl, fun i hi => ?_⟩
    have h1 : (a.map keyR)[i]? = (b.map keyR)[i]? := by rw [e]
    rw [List.getElem?_map, List.getElem?_map, List.getElem?_eq_getElem hi, List.getElem?_eq_getElem (show i < b.length by omega)] at h1
    rw [List.getD_eq_getElem?_getD, List.getD_eq_getElem?_getD, List.getElem?_eq_getElem hi, List.getElem?_eq_getElem (show i < b.length by omega)]
    exact Option.some.inj h1
  · rintro ⟨hl, h⟩
    refine List.ext_getElem? fun i => ?_
    rw [List.getElem?_map, List.getElem?_map]
    by_cases hi : i < a.length
    · have := h i hi
      rw [List.getD_eq_getElem?_getD, List.getD_eq_getElem?_getD] at this
      rw [List.getElem?_eq_getElem hi, List.getElem?_eq_getElem (show i < b.length by omega)] at this ⊢
      exact congrArg some this
    · rw [List.getElem?_eq_none (by omega), List.getElem?_eq_none (by omega)]

set_option maxRecDepth 100000 in
set_option maxHeartbeats 3200000 in
theorem eqf_hd (p1 p2 : Option Addr) (c1 c2 : Nat) (a b : List Rc) (w : World) (h1 : Hd w p1 a) (h2 : Hd w p2 b) (hl : a.length ≤ 2000 ∧ b.length ≤ 2000) :
    Calls Tryz.prog 48 #[.slice p1 a.length c1, .slice p2 b.length c2, .func (.func 49) #[] #[]] w fun e w' => e = .returned (.bool (decide (a.map keyR = b.map keyR))) ∧ Kp (fun _ => False) w w' := by
  obtain ⟨L, hL⟩ : ∃ L, L = a.length := ⟨_, rfl⟩
  obtain ⟨M, hM⟩ : ∃ M, M = b.length := ⟨_, rfl⟩
  have HL : Hid (L = a.length ∧ M = b.length ∧ L ≤ 2000 ∧ M ≤ 2000) := ⟨hL, hM, by omega, by omega⟩
  rw [← hL, ← hM]
  have H1 : Hid (Hd w p1 a) := h1
  have H2 : Hid (Hd w p2 b) := h2
  clear h1 h2 hl hL hM
  by_cases hLM : L = M
  · subst hLM
    go_enter Tryz.func48, Tryz.ntmps48
    go_wp2
    go_loopg [17] L (fun gk i wr => ∃ k : Nat, k ≤ L ∧ gk = L - k ∧ i = .int .i64 k ∧ Hid (Kp (fun _ => False) w wr ∧ ∀ i, i < k → keyR (a.getD i rc0) = keyR (b.getD i rc0)))
    case atStart => exact ⟨0, Nat.zero_le _, rfl, rfl, Kp.refl _ _, fun i hi => absurd hi (Nat.not_lt_zero _)⟩
    case round =>
      obtain ⟨k, hk, rfl, rfl, HK⟩ := hrel
      by_cases hlt : k < L
      · have hlt2 : (k : Int) < (L : Int) := by omega
        obtain ⟨g1, o1, q1, d1, hp1, x0, x1, x2, xr⟩ := (H1.out.keep0 HK.out.1) k (by have := HL.out; omega)
        obtain ⟨g2, o2, q2, d2, hp2, y0, y1, y2, yr⟩ := (H2.out.keep0 HK.out.1) k (by have := HL.out; omega)
        have HSt : Hid ((∀ i, i < k + 1 → keyR (a.getD i rc0) = keyR (b.getD i rc0)) ↔ keyR (a.getD k rc0) = keyR (b.getD k rc0)) := by
          refine ⟨fun h => h k (by omega), fun h i hi => ?_⟩
          by_cases hik : i = k
          · rw [hik]; exact h
          · exact HK.out.2 i (by omega)
        have HBad : Hid (¬ keyR (a.getD k rc0) = keyR (b.getD k rc0) → ¬ a.map keyR = b.map keyR) := fun hne e => hne ((map_eq_iff.1 e).2 k (by have := HL.out; omega))
        obtain ⟨r, hr⟩ : ∃ r, r = a.getD k rc0 := ⟨_, rfl⟩
        obtain ⟨s, hs⟩ : ∃ s, s = b.getD k rc0 := ⟨_, rfl⟩
        rw [← hr] at x0 x1 x2 xr HSt HBad
        rw [← hs] at y0 y1 y2 yr HSt HBad
        have HSv : Hid (∀ u, Kp (fun _ => False) wr u → Calls Tryz.prog 49 #[.agg #[.int .i64 (r.n : Int), .int .i64 (r.i : Int), .slice q1 r.b.length d1], .agg #[.int .i64 (s.n : Int), .int .i64 (s.i : Int), .slice q2 s.b.length d2]] u fun e w' => e = .returned (.bool (decide (keyR r = keyR s))) ∧ Kp (fun _ => False) u w') := fun u ku => samehd_ok r s q1 q2 d1 d2 u (xr.keep0 ku) (yr.keep0 ku)
        have HK1 : Hid (wrap64 ((k : Int) + 1) = ((k + 1 : Nat) : Int)) := by have := HL.out; show _ = _; unfold wrap64; omega
        have hw1 := HK1.out
        subst hp1
        subst hp2
        clear xr yr hr hs hlt
        have ka : Kp (fun _ => False) wr (wr.alloc (.cells #[.int .i64 (r.n : Int), .int .i64 (r.i : Int), .slice q1 r.b.length d1] 97)) := (Kp.refl _ _).alloc _
        have z0 := ka.cellv y0 id
        have z1 := ka.cellv y1 id
        have z2 := ka.cellv y2 id
        clear ka y0 y1 y2
        have k12 : ∀ o o' : Obj, Kp (fun _ => False) wr ((wr.alloc o).alloc o') := fun o o' => ((Kp.refl _ _).alloc _).alloc _
        by_cases hq : keyR r = keyR s
        · rw [decide_eq_true hq] at HSv
          go_wp2_with fail
          refine (HSv.out _ (k12 _ _)).mono ?_
          rintro e9 w9 ⟨rfl, k9⟩
          have HK9 : Hid (Kp (fun _ => False) w w9) := (HK.out.1.trans (k12 _ _) (fun _ _ e => e)).trans k9 (fun _ _ e => e)
          clear k9 k12 HSv
          go_wp2
          go_roundg (L - (k + 1))
          case rel => exact ⟨k + 1, by omega, rfl, by first | rw [hw1] | simp, HK9.out, HSt.out.2 hq⟩
          case measure => omega
        · rw [decide_eq_false hq] at HSv
          have HN : Hid (decide (a.map keyR = b.map keyR) = false) := decide_eq_false (HBad.out hq)
          go_wp2_with fail
          refine (HSv.out _ (k12 _ _)).mono ?_
          rintro e9 w9 ⟨rfl, k9⟩
          have HK9 : Hid (Kp (fun _ => False) w w9) := (HK.out.1.trans (k12 _ _) (fun _ _ e => e)).trans k9 (fun _ _ e => e)
          clear k9 k12 HSv
          go_wp2
          go_ret
          exact ⟨by rw [HN.out]; rfl, HK9.out⟩
      · have hlt2 : ¬ (k : Int) < (L : Int) := by omega
        have HN : Hid (decide (a.map keyR = b.map keyR) = true) := decide_eq_true (map_eq_iff.2 ⟨by have := HL.out; omega, fun i hi => HK.out.2 i (by have := HL.out; omega)⟩)
        go_wp2
        go_ret
        exact ⟨by rw [HN.out]; rfl, HK.out.1⟩
  · have h9 : ¬ (L : Int) = (M : Int) := by omega
    have HN : Hid (decide (a.map keyR = b.map keyR) = false) := decide_eq_false (fun e => by have := (map_eq_iff.1 e).1; have := HL.out; omega)
    go_enter Tryz.func48, Tryz.ntmps48
    go_wp2
    go_ret
    exact ⟨by rw [HN.out]; rfl, Kp.refl _ _⟩

set_option maxRecDepth 100000 in
theorem sameHeld_ok {b1 b2 : Nat} {v1 v2 : Value} {a b : List (Rc × Value)} {w : World} (h1 : Hr w b1 v1 a) (h2 : Hr w b2 v2 b) (hl : a.length ≤ 2000 ∧ b.length ≤ 2000) :
    Calls Tryz.prog 18 #[v1, v2] w fun e w' => e = .returned (.bool (decide ((a.map Prod.fst).map keyR = (b.map Prod.fst).map keyR))) ∧ Kp (fun _ => False) w w' := by
  obtain ⟨p1, c1, e1, d1⟩ := h1.hd
  obtain ⟨p2, c2, e2, d2⟩ := h2.hd
  have H : Hid (Calls _ _ _ w _) := eqf_hd p1 p2 c1 c2 _ _ w d1 d2 (by rw [List.length_map, List.length_map]; exact hl)
  rw [← e1, ← e2] at H
  obtain ⟨B, hB⟩ : ∃ B, B = decide ((a.map Prod.fst).map keyR = (b.map Prod.fst).map keyR) := ⟨_, rfl⟩
  rw [← hB] at H ⊢
  clear e1 e2 d1 d2 h1 h2 hl hB
  go_enter Tryz.func18, Tryz.ntmps18
  go_wp2_with fail
  refine H.out.mono ?_
  rintro e9 w9 ⟨rfl, k9⟩
  clear H
  go_wp2
  go_ret
  exact ⟨rfl, k9⟩
end Go.Proofs.YtmooddbhcccicaaGreatDoor

/- ShelfFences. -/
namespace Go.Proofs.YtmooddbhcccicaaGreatDoor
set_option linter.unusedVariables false
set_option linter.unusedSimpArgs false
open Go.RowKit Go.Deep Go.Maps

theorem md1000 (z : Int) : ∃ f : Nat, wrap64 ((IntKind.u64.wrap z).tmod 1000) = (f : Int) ∧ f ≤ 999 := by
  have h1 : IntKind.u64.wrap z = z % 18446744073709551616 := by simp [IntKind.wrap, IntKind.bits, IntKind.signed]
  have h0 : 0 ≤ IntKind.u64.wrap z := by rw [h1]; omega
  have h2 : (IntKind.u64.wrap z).tmod 1000 = IntKind.u64.wrap z % 1000 := Int.tmod_eq_emod_of_nonneg h0
  refine ⟨((IntKind.u64.wrap z).tmod 1000).toNat, ?_, ?_⟩
  · rw [h2]; unfold wrap64; omega
  · rw [h2]; omega
theorem min500 (n : Nat) : min (n : Int) 500 = ((min n 500 : Nat) : Int) := by omega
theorem ne_12 (xs : List Nat) : ¬ xs ++ [1] = [1, 2] := fun e => by
  have := congrArg List.getLast? e
  simp at this
theorem slice_firstA (p : Option Addr) (n c r : Nat) (hr : r ≤ c) (w : World) :
    (Instr.sliceAt 34 (.slice p n c) none (some (.int .i64 (r : Int))) none).run Tryz.prog w = .ok (.slice p r c) w := by
  have hs := slice_firstO p n c r hr w
  simp [Instr.sliceAt, run_underlying Tryz.underlying34, hs]
theorem Oks.hr {N : Nat} {u u' : World} (o : Oks N u u') {v : Value} {ps : List (Rc × Value)} (h : Hr u N v ps) : Hr u' N v ps := ⟨o.row _ _ _ _ _ h.1, fun z hz => ⟨o.ow (h.2 z hz).1, (h.2 z hz).2⟩⟩
theorem D8.held {w u : World} {N sh mp g bp d m gf : Nat} {dur : List Nat} {h : List Rc} (x : D8 w u N sh mp g bp d m gf dur h) :
    Calls Tryz.prog 16 #[.pointer (some ⟨sh, 0, none⟩)] u fun e u' => ∃ v ps ss, e = .returned v ∧ Hr u' N v ps ∧ Ths h ss ∧ ps.map Prod.fst = hldL h (srt3 ss) ∧ ps.length ≤ 1000 ∧ D8 w u' N sh mp g bp d m gf dur h ∧ Oks N u u' := by
  refine (held_ok x.s.sk).mono ?_
  rintro e u' ⟨v, ps, ss, rfl, k, hh, ht, he⟩
  refine ⟨v, ps, ss, rfl, hh.base x.n, ht, he, ?_, x.keep0 k⟩
  have h1 := congrArg List.length he
  rw [List.length_map] at h1
  have h2 : (hldL h (srt3 ss)).length ≤ (srt3 ss).length := List.length_filterMap_le _ _
  have h3 := ht.len x.s.sk
  rw [srt3_len] at h2
  omega

set_option maxRecDepth 100000 in
set_option maxHeartbeats 6400000 in
theorem shelfFences_walk (z0 z1 z2 z3 : Int) (pa : Option Addr) (na ca : Nat) (xa : List Nat) (w : World) (h0 : (Lit.int .i64 z0).wf = true) (h1 : (Lit.int .i64 z1).wf = true) (h2 : (Lit.int .i64 z2).wf = true) (h3 : (Lit.int .i64 z3).wf = true)
    (ra : Rb w pa na xa) (lca : na ≤ ca) (sa : Hid (na ≤ 140737488355328)) (ht : Turns w) :
    Calls Tryz.prog 4 #[.int .i64 z0, .int .i64 z1, .int .i64 z2, .int .i64 z3, .slice pa na ca] w fun e w' => e = .returned (.bool true) ∧ Kp (fun _ => False) w w' := by
  have HFr : Hid (Calls _ _ _ w _) := fresh8_ok w ht
  have HA : Hid (Rb w pa na xa ∧ na ≤ ca ∧ na ≤ 140737488355328) := ⟨ra, lca, sa.out⟩
  clear ra lca sa ht
  obtain ⟨bl, e0, hbl⟩ := sh8 z0
  obtain ⟨ix, e1, hix⟩ := sh8 z1
  obtain ⟨ep, e2, hep⟩ := md1000 z2
  obtain ⟨f, e3, hf⟩ := md1000 z3
  have HQ : Hid (bl ≤ 1152921504606846976 ∧ ix ≤ 1152921504606846976 ∧ ep ≤ 1152921504606846976 ∧ f ≤ 1152921504606846976) := ⟨by omega, by omega, by omega, by omega⟩
  clear h0 h1 h2 h3 hbl hix hep hf
  obtain ⟨la, hla⟩ : ∃ la, la = min na 500 := ⟨_, rfl⟩
  have hmin : min (na : Int) 500 = (la : Int) := by rw [hla]; exact min500 na
  have hsl : ∀ z, (Instr.sliceAt 34 (.slice pa na ca) none (some (.int .i64 (la : Int))) none).run Tryz.prog z = .ok (.slice pa la ca) z := fun z => slice_firstA pa na ca la (by have := HA.out.2.1; omega) z
  have HLa : Hid (la ≤ na ∧ la ≤ 500) := ⟨by omega, by omega⟩
  clear hla
  go_enter Tryz.func4, Tryz.ntmps4
  go_wp2_with fail
  refine HFr.out.mono ?_
  rintro e9 w1 ⟨sh, mp, g, gf, bp, d, m, dur, rfl, k1, hz1, s1⟩
  obtain ⟨N, hN⟩ : ∃ N, N = w1.heap.size := ⟨_, rfl⟩
  rw [← hN] at s1
  have HX0 : Hid (D8 w w1 N sh mp g bp d m gf dur []) := ⟨s1, k1, Nat.le_of_eq hN, ⟨hz1.1, hz1.2.1, hz1.2.2.1, hz1.2.2.2.1, hz1.2.2.2.2.2.2⟩, fun r hr => absurd hr List.not_mem_nil⟩
  have HCl : Hid (Calls _ _ _ w1 _) := clone_any pa la ca (xa.take la) w1 ((HA.out.1.keep0 k1).fst HLa.out.1) (show la ≤ 140737488355328 by have := HLa.out; omega)
  have HN1 : Hid (N = w1.heap.size) := hN
  clear k1 hz1 s1 HFr hN
  go_wp2_with fail
  refine HCl.out.mono ?_
  rintro e9 w2 ⟨v, rfl, k2, o2⟩
  have HO2 : Hid (Ow w2 w1.heap.size v (xa.take la)) := o2
  have HLen : Hid ((xa.take la).length = la ∧ ∀ x ∈ xa.take la, x < 256) := by
    have h1 := HA.out.1.fst HLa.out.1
    exact ⟨h1.len, h1.byte⟩
  have k3 : Kp (fun _ => False) w2 (w2.alloc (.cells #[.int .u8 1] 5)) := (Kp.refl _ _).alloc _
  have HO3 : Hid (Ow (w2.alloc (.cells #[.int .u8 1] 5)) w1.heap.size v (xa.take la)) := ownsRow_keep o2 k3 (fun _ _ e => e)
  have HR3 : Hid (Rb (w2.alloc (.cells #[.int .u8 1] 5)) (some ⟨w2.heap.size, 0, none⟩) 1 [1]) := by
    obtain ⟨p, c, e, _, hr, _⟩ := (own_oneI w2 1 (by decide)).rb (by decide)
    cases e
    exact hr
  have HK3 : Hid (Kp (fun _ => False) w1 (w2.alloc (.cells #[.int .u8 1] 5))) := k2.trans k3 (fun _ _ e => e)
  have HBl : Hid (∀ b, v.ownBlock = some b → w1.heap.size ≤ b) := fun b hb => (ownBlock_lt o2 hb).1
  clear k2 k3 o2 HCl HO2
  go_wp2_with (refine wpList_append_bytes _ rfl _ _ rfl w1.heap.size v (xa.take la) rfl HO3.out (some ⟨w2.heap.size, 0, none⟩) 1 1 [1] rfl HR3.out (by have := HLen.out.1; have := HLa.out; omega) HK3.out.size ?_; intro vb w4 o4 k4 _)
  obtain ⟨xb, hxb⟩ : ∃ xb, xb = xa.take la ++ [1] := ⟨_, rfl⟩
  rw [← hxb] at o4
  have HXb : Hid (1 ≤ xb.length ∧ xb.length ≤ 600 ∧ (∀ x ∈ xb, x < 256) ∧ ¬ xb = [1, 2]) := by
    have h1 := HLen.out
    have h2 := HLa.out
    refine ⟨?_, ?_, ?_, by rw [hxb]; exact ne_12 _⟩
    · rw [hxb, List.length_append, h1.1]; show 1 ≤ la + 1; omega
    · rw [hxb, List.length_append, h1.1]; show la + 1 ≤ 600; omega
    · rw [hxb]
      intro x hx
      rcases List.mem_append.1 hx with hx | hx
      · exact h1.2 x hx
      · rw [List.mem_singleton.1 hx]; decide
  have HX4 : Hid (D8 w w4 N sh mp g bp d m gf dur [] ∧ Ow w4 N vb xb) := by
    refine ⟨(HX0.out.keep0 (HK3.out.trans k4 (fun b hb e => by have := HBl.out b e; omega))).1, by rw [HN1.out]; exact o4⟩
  clear o4 k4 HX0 HK3 HO3 HR3 HBl HN1 hxb hmin hsl HLen HLa HA e0 e1 e2 e3
  have hs1 := stS_shard [] bl ix xb
  have HSt : Hid ((stS [⟨1, bl, ix, 0, xb⟩]).1 ⟨1, (bl : Int), (ix : Int)⟩ = some ⟨1, bl, ix, 0, xb⟩ ∧ fncd [⟨1, bl, ix, 0, xb⟩] bl ix = 0) := ⟨hs1.1, (hs1.2 bl ix).trans (fncd_nil bl ix)⟩
  clear hs1
  have HC : Hid (Calls Tryz.prog 14 #[.pointer (some ⟨sh, 0, none⟩), .int .i64 (bl : Int), .int .i64 (ix : Int), .int .i64 0, vb] w4 _) := HX4.out.1.store_new bl ix 0 HQ.out.1 HQ.out.2.1 (by decide) (show 0 ≤ 5 by decide) HX4.out.2 ⟨HXb.out.1, HXb.out.2.1⟩ HXb.out.2.2.1 (Nat.le_of_eq (fncd_nil bl ix)) rfl
  refine HC.out.mono ?_
  rintro e9 w5 ⟨rfl, x, o⟩
  have HX5 : Hid (D8 w w5 N sh mp g bp d m gf dur [⟨1, bl, ix, 0, xb⟩] ∧ Ow w5 N vb xb) := ⟨x, o.ow HX4.out.2⟩
  clear x o HX4 HC
  have HC : Hid (Calls _ _ _ w5 _) := HX5.out.1.fence_any bl ix f HQ.out.1 HQ.out.2.1 HQ.out.2.2.2 (show 1 ≤ 5 by decide) (by rw [HSt.out.2]; exact Nat.zero_le _)
  go_wp2_with fail
  refine HC.out.mono ?_
  rintro e9 w6 ⟨rfl, o, h, x, hl, hf, hst⟩
  have HX6 : Hid (D8 w w6 N sh mp g bp d m gf dur h ∧ Ow w6 N vb xb) := ⟨x, o.ow HX5.out.2⟩
  have HH : Hid (h.length ≤ 5 ∧ fncd h bl ix = f ∧ (stS h).1 ⟨1, (bl : Int), (ix : Int)⟩ = some ⟨1, bl, ix, 0, xb⟩) := ⟨Nat.le_trans hl (show 2 ≤ 5 by decide), hf, (hst _ _).trans HSt.out.1⟩
  clear x o HX5 HC hl hf hst HSt
  have HC : Hid (Calls _ _ _ w6 _) := HX6.out.1.held
  go_wp2_with fail
  refine HC.out.mono ?_
  rintro e9 w7 ⟨va, psa, ssa, rfl, ha, ta, ea, la, x, o⟩
  have HX7 : Hid (D8 w w7 N sh mp g bp d m gf dur h ∧ Ow w7 N vb xb ∧ Hr w7 N va psa) := ⟨x, o.ow HX6.out.2, ha⟩
  have HPa : Hid (Ths h ssa ∧ psa.map Prod.fst = hldL h (srt3 ssa) ∧ psa.length ≤ 1000) := ⟨ta, ea, la⟩
  clear x o HX6 HC ha ta ea la
  by_cases hlt : ep < f
  · have hlt2 : (ep : Int) < (f : Int) := by omega
    have HC : Hid (Calls _ _ _ w7 _) := HX7.out.1.fetch_low bl ix ep HQ.out.1 HQ.out.2.1 HQ.out.2.2.1 (by rw [HH.out.2.1]; exact hlt)
    go_wp2_with fail
    refine HC.out.mono ?_
    rintro e9 w8 ⟨rfl, x, o⟩
    have HX8 : Hid (D8 w w8 N sh mp g bp d m gf dur h ∧ Ow w8 N vb xb ∧ Hr w8 N va psa) := ⟨x, o.ow HX7.out.2.1, o.hr HX7.out.2.2⟩
    clear x o HX7 HC
    have k9 : Kp (fun _ => False) w8 (w8.alloc (.cells #[.int .u8 1, .int .u8 2] 5)) := (Kp.refl _ _).alloc _
    have o12 : Ow (w8.alloc (.cells #[.int .u8 1, .int .u8 2] 5)) w8.heap.size (.slice (some ⟨w8.heap.size, 0, none⟩) 2 2) [1, 2] := World.ownsRow_lit w8 #[.int .u8 1, .int .u8 2] 2 (Nat.le_refl _) (by unfold maxLen; omega) rfl
    have HX9 : Hid (D8 w (w8.alloc (.cells #[.int .u8 1, .int .u8 2] 5)) N sh mp g bp d m gf dur h ∧ Ow (w8.alloc (.cells #[.int .u8 1, .int .u8 2] 5)) N vb xb ∧ Hr (w8.alloc (.cells #[.int .u8 1, .int .u8 2] 5)) N va psa) := ⟨(HX8.out.1.keep0 k9).1, (HX8.out.1.keep0 k9).2.ow HX8.out.2.1, (HX8.out.1.keep0 k9).2.hr HX8.out.2.2⟩
    have HC : Hid (Calls Tryz.prog 14 #[.pointer (some ⟨sh, 0, none⟩), .int .i64 (bl : Int), .int .i64 (ix : Int), .int .i64 (ep : Int), .slice (some ⟨w8.heap.size, 0, none⟩) 2 2] (w8.alloc (.cells #[.int .u8 1, .int .u8 2] 5)) _) := HX9.out.1.store_low bl ix ep HQ.out.1 HQ.out.2.1 HQ.out.2.2.1 HH.out.1 o12 (by decide) (by decide) (by rw [HH.out.2.1]; exact hlt)
    clear o12 k9 HX8
    go_wp2_with fail
    refine HC.out.mono ?_
    rintro e9 w9 ⟨rfl, x, o⟩
    have HXa : Hid (D8 w w9 N sh mp g bp d m gf dur h ∧ Ow w9 N vb xb ∧ Hr w9 N va psa) := ⟨x, o.ow HX9.out.2.1, o.hr HX9.out.2.2⟩
    clear x o HX9 HC
    have HC : Hid (Calls _ _ _ w9 _) := HXa.out.1.held
    go_wp2_with fail
    refine HC.out.mono ?_
    rintro e9 wa ⟨vc, psc, ssc, rfl, hc, tc, ec, lc, x, o⟩
    have HSm : Hid (Calls Tryz.prog 18 #[va, vc] wa fun e w' => e = .returned (.bool true) ∧ Kp (fun _ => False) wa w') := by
      have h9 := sameHeld_ok (o.hr HXa.out.2.2) hc ⟨Nat.le_trans HPa.out.2.2 (by decide), Nat.le_trans lc (by decide)⟩
      rw [decide_eq_true (by rw [HPa.out.2.1, ec, srt3_perm (HPa.out.1.perm tc)])] at h9
      exact h9
    have HXq : Hid (D8 w wa N sh mp g bp d m gf dur h ∧ Ow wa N vb xb) := ⟨x, o.ow HXa.out.2.1⟩
    clear x o HXa HC hc tc ec lc
    go_wp2_with fail
    refine HSm.out.mono ?_
    rintro e9 wb ⟨rfl, kb⟩
    have HXc : Hid (D8 w wb N sh mp g bp d m gf dur h ∧ Ow wb N vb xb) := ⟨(HXq.out.1.keep0 kb).1, (HXq.out.1.keep0 kb).2.ow HXq.out.2⟩
    clear kb HXq HSm
    have HC : Hid (Calls Tryz.prog 19 #[.pointer (some ⟨sh, 0, none⟩), .int .i64 (bl : Int), .int .i64 (ix : Int)] wb fun e u' => e = .returned (.int .i64 (f : Int)) ∧ u' = wb) := by
      have h9 := HXc.out.1.fenced bl ix HQ.out.1 HQ.out.2.1
      rw [HH.out.2.1] at h9
      exact h9
    go_wp2_with fail
    refine HC.out.mono ?_
    rintro e9 wc ⟨rfl, hw9⟩
    have hw8 := hw9.symm
    subst hw8
    clear hw9 HC
    go_wp2
    go_ret
    exact ⟨rfl, HXc.out.1.k⟩
  · have hlt2 : ¬ (ep : Int) < (f : Int) := by omega
    have HXb0 := HXb
    have HC : Hid (Calls _ _ _ w7 _) := HX7.out.1.fetch_some bl ix ep HQ.out.1 HQ.out.2.1 HQ.out.2.2.1 (by rw [HH.out.2.1]; omega) HH.out.2.2
    clear HXb
    go_wp2_with fail
    refine HC.out.mono ?_
    rintro e9 w8 ⟨vx, rfl, ox, x, o⟩
    have HX8 : Hid (D8 w w8 N sh mp g bp d m gf dur h ∧ Ow w8 N vb xb ∧ Hr w8 N va psa ∧ Ow w8 N vx xb) := ⟨x, o.ow HX7.out.2.1, o.hr HX7.out.2.2, ox⟩
    clear x o ox HX7 HC
    have k9 : Kp (fun _ => False) w8 (w8.alloc (.cells #[.int .u8 1, .int .u8 2] 5)) := (Kp.refl _ _).alloc _
    have o12 : Ow (w8.alloc (.cells #[.int .u8 1, .int .u8 2] 5)) w8.heap.size (.slice (some ⟨w8.heap.size, 0, none⟩) 2 2) [1, 2] := World.ownsRow_lit w8 #[.int .u8 1, .int .u8 2] 2 (Nat.le_refl _) (by unfold maxLen; omega) rfl
    have HX9 : Hid (D8 w (w8.alloc (.cells #[.int .u8 1, .int .u8 2] 5)) N sh mp g bp d m gf dur h ∧ Ow (w8.alloc (.cells #[.int .u8 1, .int .u8 2] 5)) N vb xb ∧ Hr (w8.alloc (.cells #[.int .u8 1, .int .u8 2] 5)) N va psa ∧ Ow (w8.alloc (.cells #[.int .u8 1, .int .u8 2] 5)) N vx xb) := ⟨(HX8.out.1.keep0 k9).1, (HX8.out.1.keep0 k9).2.ow HX8.out.2.1, (HX8.out.1.keep0 k9).2.hr HX8.out.2.2.1, (HX8.out.1.keep0 k9).2.ow HX8.out.2.2.2⟩
    have HC : Hid (Calls Tryz.prog 14 #[.pointer (some ⟨sh, 0, none⟩), .int .i64 (bl : Int), .int .i64 (ix : Int), .int .i64 (ep : Int), .slice (some ⟨w8.heap.size, 0, none⟩) 2 2] (w8.alloc (.cells #[.int .u8 1, .int .u8 2] 5)) fun e9 u' => e9 = .returned (.int .i64 82) ∧ D8 w u' N sh mp g bp d m gf dur h ∧ Oks N (w8.alloc (.cells #[.int .u8 1, .int .u8 2] 5)) u') := by
      have h9 := HX9.out.1.store_there bl ix ep HQ.out.1 HQ.out.2.1 HQ.out.2.2.1 HH.out.1 o12 (by decide) (by decide) (by rw [HH.out.2.1]; omega) HH.out.2.2
      rw [if_neg HXb0.out.2.2.2] at h9
      exact h9
    clear o12 k9 HX8
    go_wp2_with fail
    refine HC.out.mono ?_
    rintro e9 w9 ⟨rfl, x, o⟩
    have HXa : Hid (D8 w w9 N sh mp g bp d m gf dur h ∧ Ow w9 N vb xb ∧ Hr w9 N va psa ∧ Ow w9 N vx xb) := ⟨x, o.ow HX9.out.2.1, o.hr HX9.out.2.2.1, o.ow HX9.out.2.2.2⟩
    clear x o HX9 HC
    have HC : Hid (Calls _ _ _ w9 _) := HXa.out.1.held
    go_wp2_with fail
    refine HC.out.mono ?_
    rintro e9 wa ⟨vc, psc, ssc, rfl, hc, tc, ec, lc, x, o⟩
    have HSm : Hid (Calls Tryz.prog 18 #[va, vc] wa fun e w' => e = .returned (.bool true) ∧ Kp (fun _ => False) wa w') := by
      have h9 := sameHeld_ok (o.hr HXa.out.2.2.1) hc ⟨Nat.le_trans HPa.out.2.2 (by decide), Nat.le_trans lc (by decide)⟩
      rw [decide_eq_true (by rw [HPa.out.2.1, ec, srt3_perm (HPa.out.1.perm tc)])] at h9
      exact h9
    have HXb : Hid (D8 w wa N sh mp g bp d m gf dur h ∧ Ow wa N vb xb ∧ Ow wa N vx xb) := ⟨x, o.ow HXa.out.2.1, o.ow HXa.out.2.2.2⟩
    clear x o HXa HC hc tc ec lc
    go_wp2_with fail
    refine HSm.out.mono ?_
    rintro e9 wb ⟨rfl, kb⟩
    have HXc : Hid (D8 w wb N sh mp g bp d m gf dur h ∧ Ow wb N vb xb ∧ Ow wb N vx xb) := ⟨(HXb.out.1.keep0 kb).1, (HXb.out.1.keep0 kb).2.ow HXb.out.2.1, (HXb.out.1.keep0 kb).2.ow HXb.out.2.2⟩
    clear kb HXb HSm
    have HC : Hid (Calls Tryz.prog 19 #[.pointer (some ⟨sh, 0, none⟩), .int .i64 (bl : Int), .int .i64 (ix : Int)] wb fun e u' => e = .returned (.int .i64 (f : Int)) ∧ u' = wb) := by
      have h9 := HXc.out.1.fenced bl ix HQ.out.1 HQ.out.2.1
      rw [HH.out.2.1] at h9
      exact h9
    go_wp2_with fail
    refine HC.out.mono ?_
    rintro e9 wc ⟨rfl, hw9⟩
    have hw8 := hw9.symm
    subst hw8
    clear hw9 HC
    have HEq : Hid (Calls Tryz.prog 20 #[vx, vb] wb fun e u' => e = .returned (.bool true) ∧ u' = wb) := by
      have h9 := eq_own HXc.out.2.2 HXc.out.2.1 HXb0.out.2.2.1 HXb0.out.2.2.1
      rw [decide_eq_true rfl] at h9
      exact h9
    go_wp2_with fail
    refine HEq.out.mono ?_
    rintro e9 wc ⟨rfl, hw9⟩
    have hw8 := hw9.symm
    subst hw8
    clear hw9 HEq
    go_wp2
    go_ret
    exact ⟨rfl, HXc.out.1.k⟩
end Go.Proofs.YtmooddbhcccicaaGreatDoor
