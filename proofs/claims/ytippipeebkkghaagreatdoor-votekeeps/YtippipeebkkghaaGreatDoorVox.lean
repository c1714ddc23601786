/- How a list of an acceptor's calls comes in. -/
import Derived.Test.YtippipeebkkghaaGreatDoorFg
import Derived.Deep.Slices
import Derived.Lib.SmallJoins
namespace Go.Proofs.YtippipeebkkghaaGreatDoor
open Go.ChangeShapes Go.WideShapes Go.ChangeAt Go.RowKit Go.Deep

theorem cellsI11 : Tryz.prog.cellsOf 3 = 1 := by kernel_rfl
theorem cellsS11 : Tryz.prog.cellsOf 9 = 1 := by kernel_rfl
theorem cellsU11 : Tryz.prog.cellsOf 26 = 1 := by kernel_rfl
theorem cellsN11 : Tryz.prog.cellsOf 29 = 1 := by kernel_rfl
theorem cellsK11 : Tryz.prog.cellsOf 28 = 2 := by kernel_rfl
theorem cellsC11 : Tryz.prog.cellsOf 31 = 12 := by kernel_rfl
theorem cellsM11 : Tryz.prog.cellsOf 32 = 1 := by kernel_rfl
theorem cellsDo11 : Tryz.prog.cellsOf 34 = 18 := by kernel_rfl
section
variable {H : Type} {enc : TypeId × Value → H} {W : World}
theorem one_int11 {ty : TypeId} {q : IntKind} {k : Nat} {v : Value} {y : DataW H × List MemPlace} (ht : Tryz.prog.underlying ty = some (.int q)) (h : DataW.trod enc Tryz.prog W 0 (fun _ => true) true k ty [v] = some y) : v.oneCell' = true := by
  obtain ⟨z, e, _, _⟩ := DataW.trod_int ht h
  simp only [List.cons.injEq, and_true] at e
  subst e
  rfl
theorem one_slice11 {ty e : TypeId} {k : Nat} {v : Value} {y : DataW H × List MemPlace} (ht : Tryz.prog.underlying ty = some (.slice e)) (h : DataW.trod enc Tryz.prog W 0 (fun _ => true) true k ty [v] = some y) : v.oneCell' = true := by
  obtain ⟨a, l, c, e⟩ := Joins.slice_form ht h
  simp only [List.cons.injEq, and_true] at e
  subst e
  rfl
theorem one_code11 {k : Nat} {a b : Value} {y : DataW H × List MemPlace} (h : DataW.trod enc Tryz.prog W 0 (fun _ => true) true k 28 [a, b] = some y) : a.oneCell' = true ∧ b.oneCell' = true := by
  obtain ⟨xs, k', hk, hxy, _, hxl, hfd⟩ := DataW.trod_struct Tryz.underlying28 h
  match xs, hxl with
  | [y0, y1], _ =>
    have g0 := hfd 0 _ rfl
    have g1 := hfd 1 _ rfl
    simp [cellsI11] at g0 g1
    exact ⟨one_int11 Tryz.underlying3 g0, one_int11 Tryz.underlying3 g1⟩
set_option maxRecDepth 100000 in
theorem one_cmd11 {k : Nat} {cs : List Value} {y : DataW H × List MemPlace} (hl : cs.length = 12) (h : DataW.trod enc Tryz.prog W 0 (fun _ => true) true k 31 cs = some y) : ∀ u ∈ cs, u.oneCell' = true := by
  obtain ⟨xs, k', hk, hxy, _, hxl, hfd⟩ := DataW.trod_struct Tryz.underlying31 h
  match cs, hl with
  | [v0, v1, v2, v3, v4, v5, v6, v7, v8, v9, v10, v11], _ =>
    match xs, hxl with
    | [y0, y1, y2, y3, y4, y5, y6, y7, y8, y9, y10], _ =>
      have g0 := hfd 0 _ rfl
      have g1 := hfd 1 _ rfl
      have g2 := hfd 2 _ rfl
      have g3 := hfd 3 _ rfl
      have g4 := hfd 4 _ rfl
      have g5 := hfd 5 _ rfl
      have g6 := hfd 6 _ rfl
      have g7 := hfd 7 _ rfl
      have g8 := hfd 8 _ rfl
      have g9 := hfd 9 _ rfl
      have g10 := hfd 10 _ rfl
      simp [cellsI11, cellsS11, cellsU11, cellsK11, cellsN11] at g0 g1 g2 g3 g4 g5 g6 g7 g8 g9 g10
      obtain ⟨s2, e2, _, _⟩ := DataW.trod_string Tryz.underlying9 g2
      simp only [List.cons.injEq, and_true] at e2
      subst e2
      obtain ⟨o9, o10⟩ := one_code11 g9
      have o0 := one_int11 Tryz.underlying3 g0
      have o1 := one_int11 Tryz.underlying3 g1
      have o3 := one_int11 Tryz.underlying3 g3
      have o4 := one_int11 Tryz.underlying3 g4
      have o5 := one_int11 Tryz.underlying3 g5
      have o6 := one_int11 Tryz.underlying3 g6
      have o7 := one_int11 Tryz.underlying3 g7
      have o8 := one_int11 Tryz.underlying26 g8
      have o11 := one_slice11 Tryz.underlying29 g10
      intro u hu
      simp only [List.mem_cons, List.not_mem_nil, or_false] at hu
      rcases hu with rfl | rfl | rfl | rfl | rfl | rfl | rfl | rfl | rfl | rfl | rfl | rfl
      · exact o0
      · exact o1
      · rfl
      · exact o3
      · exact o4
      · exact o5
      · exact o6
      · exact o7
      · exact o8
      · exact o9
      · exact o10
      · exact o11
end
/-- a call's cells -/
abbrev doL (op bl sl tn nn : Int) (cs : List Value) (mk : Int) : List Value := [.int .i64 op, .int .i64 bl, .int .i64 sl, .int .i64 tn, .int .i64 nn] ++ (cs ++ [.int .u64 mk])
/-- an acceptor's call, as it lies at a place -/
structure Do11 (w : World) (gb o : Nat) (op bl sl tn nn : Int) (cs : List Value) (mk : Int) : Prop where
  c : ∀ j u, (doL op bl sl tn nn cs mk)[j]? = some u → w.cell? ⟨gb, o + j, none⟩ = some u
  l : cs.length = 12
  u : ∀ u ∈ cs, u.oneCell' = true
  wt : (Lit.int .i64 tn).wf = true
structure Dos11 (w : World) (v : Value) (L : Nat) : Prop where
  form : ∃ (g : Option Addr) (gb go cap : Nat), v = .slice g L cap ∧ (0 < L → g = some ⟨gb, go, none⟩) ∧ ∀ r, r < L → ∃ (op bl sl tn nn : Int) (cs : List Value) (mk : Int), Do11 w gb (go + r * 18) op bl sl tn nn cs mk
  many : (L : Int) ≤ 9223372036854775807

set_option maxRecDepth 100000 in
set_option maxHeartbeats 1600000 in
theorem dos11_of_trod {H : Type} {enc : TypeId × Value → H} {W : World} {a : Option Addr} {len cap : Nat} {d : DataW H} {p : List MemPlace}
    (h : DataW.Trod enc Tryz.prog W 0 (fun _ => true) true 22 (.slice a len cap) d p) : Dos11 W (.slice a len cap) len := by
  obtain ⟨fuel, hf⟩ := h
  rcases open_slice Tryz.underlying22 hf with ⟨hcs, _⟩ | ⟨x, l, c, m, n, D, Pl, hcs, _, hl, hm, hmm, hx, hel⟩
  · simp [Value.cells] at hcs
    obtain ⟨rfl, rfl, rfl⟩ := hcs
    exact ⟨⟨none, 0, 0, 0, rfl, fun h => absurd h (Nat.lt_irrefl _), fun r h => absurd h (Nat.not_lt_zero _)⟩, by omega⟩
  · simp [Value.cells] at hcs
    obtain ⟨rfl, rfl, rfl⟩ := hcs
    have hmc : m = cap := by simpa using hmm
    obtain ⟨b, off, spot⟩ := x
    have hmx : cap ≤ 9223372036854775807 := by simpa [maxLen] using hm
    rw [cellsDo11] at hel
    by_cases h0 : len = 0
    · subst h0
      exact ⟨⟨some ⟨b, off, spot⟩, 0, 0, cap, rfl, fun h => absurd h (Nat.lt_irrefl _), fun r h => absurd h (Nat.not_lt_zero _)⟩, by omega⟩
    have hspot : spot = none := by
      obtain ⟨cs', h1, _⟩ := hel 0 (by omega)
      obtain ⟨_, hlen, hcell⟩ := World.cells?_some h1
      have h00 := hcell 0 (by omega)
      rw [List.getElem?_eq_getElem (by omega)] at h00
      have := World.cell?_spot h00
      simpa [Addr.add] using this
    subst hspot
    have each : ∀ i, i < len → ∃ (op bl sl tn nn : Int) (cs : List Value) (mk : Int), Do11 W b (off + i * 18) op bl sl tn nn cs mk := fun i hi => by
      obtain ⟨cs', h1, h2⟩ := hel i (by omega)
      obtain ⟨_, hlen, hcell⟩ := World.cells?_some h1
      obtain ⟨xs, k, hk, hxy, _, hxl, hfd⟩ := DataW.trod_struct Tryz.underlying34 h2
      match xs, hxl with
      | [y0, y1, y2, y3, y4, y5, y6], _ =>
        match cs', hlen with
        | [v0, v1, v2, v3, v4, v5, v6, v7, v8, v9, v10, v11, v12, v13, v14, v15, v16, v17], _ =>
          have g0 := hfd 0 _ rfl
          have g1 := hfd 1 _ rfl
          have g2 := hfd 2 _ rfl
          have g3 := hfd 3 _ rfl
          have g4 := hfd 4 _ rfl
          have g5 := hfd 5 _ rfl
          have g6 := hfd 6 _ rfl
          simp [cellsI11, cellsC11, cellsM11] at g0 g1 g2 g3 g4 g5 g6
          obtain ⟨op, e0, _, _⟩ := DataW.trod_int Tryz.underlying3 g0
          obtain ⟨bl, e1, _, _⟩ := DataW.trod_int Tryz.underlying3 g1
          obtain ⟨sl, e2, _, _⟩ := DataW.trod_int Tryz.underlying3 g2
          obtain ⟨tn, e3, _, wt⟩ := DataW.trod_int Tryz.underlying3 g3
          obtain ⟨nn, e4, _, _⟩ := DataW.trod_int Tryz.underlying3 g4
          obtain ⟨mk, e6, _, _⟩ := DataW.trod_int Tryz.underlying32 g6
          have oc := one_cmd11 (by rfl) g5
          simp only [List.cons.injEq, and_true] at e0 e1 e2 e3 e4 e6
          subst e0 e1 e2 e3 e4 e6
          refine ⟨op, bl, sl, tn, nn, [v5, v6, v7, v8, v9, v10, v11, v12, v13, v14, v15, v16], mk, ⟨fun j u hu => ?_, rfl, oc, wt⟩⟩
          have hj : j < 18 := (List.getElem?_eq_some_iff.1 hu).1
          have hc := hcell j hj
          rw [add_add, Addr.add_mid, ← Nat.add_assoc] at hc
          rw [hc]
          exact hu
    exact ⟨⟨some ⟨b, off, none⟩, b, off, cap, rfl, fun _ => rfl, fun r hr => each r hr⟩, by omega⟩
end Go.Proofs.YtippipeebkkghaaGreatDoor
