/- How a list of calls of a post comes in: what is done, and to which packet. -/
import Derived.Test.YtiplhbpjppkniaaQk
import Derived.Test.YtiplhbpjppkniaaFt
import Derived.Deep.Slices
namespace Go.Proofs.Ytiplhbpjppkniaa
open Go.ChangeShapes Go.WideShapes Go.ChangeAt Go.RowKit Go.Deep

theorem cellsI : Try.prog.cellsOf 3 = 1 := by kernel_rfl
theorem cellsB : Try.prog.cellsOf 4 = 1 := by kernel_rfl
theorem cellsS : Try.prog.cellsOf 9 = 1 := by kernel_rfl
theorem cellsU : Try.prog.cellsOf 29 = 1 := by kernel_rfl
theorem cellsN : Try.prog.cellsOf 32 = 1 := by kernel_rfl
theorem cellsV : Try.prog.cellsOf 35 = 1 := by kernel_rfl
theorem cellsY : Try.prog.cellsOf 36 = 1 := by kernel_rfl
theorem cellsC : Try.prog.cellsOf 34 = 12 := by kernel_rfl
theorem cellsK : Try.prog.cellsOf 31 = 2 := by kernel_rfl
theorem cellsM : Try.prog.cellsOf 38 = 24 := by kernel_rfl
section
variable {H : Type} {enc : TypeId × Value → H} {W : World}
theorem one_int {ty : TypeId} {q : IntKind} {k : Nat} {v : Value} {y : DataW H × List MemPlace} (ht : Try.prog.underlying ty = some (.int q)) (h : DataW.trod enc Try.prog W 0 (fun _ => true) true k ty [v] = some y) : v.oneCell' = true := by
  obtain ⟨z, e, _, _⟩ := DataW.trod_int ht h
  simp only [List.cons.injEq, and_true] at e
  subst e
  rfl
theorem one_slice {ty e : TypeId} {k : Nat} {v : Value} {y : DataW H × List MemPlace} (ht : Try.prog.underlying ty = some (.slice e)) (h : DataW.trod enc Try.prog W 0 (fun _ => true) true k ty [v] = some y) : v.oneCell' = true := by
  obtain ⟨a, l, c, e⟩ := Joins.slice_form ht h
  simp only [List.cons.injEq, and_true] at e
  subst e
  rfl
theorem one_code {k : Nat} {a b : Value} {y : DataW H × List MemPlace} (h : DataW.trod enc Try.prog W 0 (fun _ => true) true k 31 [a, b] = some y) : a.oneCell' = true ∧ b.oneCell' = true := by
  obtain ⟨xs, k', hk, hxy, _, hxl, hfd⟩ := DataW.trod_struct Try.underlying31 h
  match xs, hxl with
  | [y0, y1], _ =>
    have g0 := hfd 0 _ rfl
    have g1 := hfd 1 _ rfl
    simp [cellsI] at g0 g1
    exact ⟨one_int Try.underlying3 g0, one_int Try.underlying3 g1⟩
set_option maxRecDepth 100000 in
theorem one_cmd {k : Nat} {cs : List Value} {y : DataW H × List MemPlace} (hl : cs.length = 12) (h : DataW.trod enc Try.prog W 0 (fun _ => true) true k 34 cs = some y) : ∀ u ∈ cs, u.oneCell' = true := by
  obtain ⟨xs, k', hk, hxy, _, hxl, hfd⟩ := DataW.trod_struct Try.underlying34 h
  match cs, hl with
  | [v0, v1, v2, v3, v4, v5, v6, v7, v8, v9, v10, v11], _ =>
    match xs, hxl with
    | [y0, y1, y2, y3, y4, y5, y6, y7, y8, y9, y10], _ =>
      have g0 := hfd 0 _ rfl
      have g1 := hfd 1 _ rfl
      have g2 := hfd 2 _ rfl
      have g3 := hfd 3 _ rfl
      have g4 := hfd 4 _ rfl
      have g5 := hfd 5 _ rfl
      have g6 := hfd 6 _ rfl
      have g7 := hfd 7 _ rfl
      have g8 := hfd 8 _ rfl
      have g9 := hfd 9 _ rfl
      have g10 := hfd 10 _ rfl
      simp [cellsI, cellsS, cellsU, cellsK, cellsN] at g0 g1 g2 g3 g4 g5 g6 g7 g8 g9 g10
      obtain ⟨s2, e2, _, _⟩ := DataW.trod_string Try.underlying9 g2
      simp only [List.cons.injEq, and_true] at e2
      subst e2
      obtain ⟨o9, o10⟩ := one_code g9
      have o0 := one_int Try.underlying3 g0
      have o1 := one_int Try.underlying3 g1
      have o3 := one_int Try.underlying3 g3
      have o4 := one_int Try.underlying3 g4
      have o5 := one_int Try.underlying3 g5
      have o6 := one_int Try.underlying3 g6
      have o7 := one_int Try.underlying3 g7
      have o8 := one_int Try.underlying29 g8
      have o11 := one_slice Try.underlying32 g10
      intro u hu
      simp only [List.mem_cons, List.not_mem_nil, or_false] at hu
      rcases hu with rfl | rfl | rfl | rfl | rfl | rfl | rfl | rfl | rfl | rfl | rfl | rfl
      · exact o0
      · exact o1
      · rfl
      · exact o3
      · exact o4
      · exact o5
      · exact o6
      · exact o7
      · exact o8
      · exact o9
      · exact o10
      · exact o11
set_option maxRecDepth 100000 in
theorem one_msg {k : Nat} {cs : List Value} {y : DataW H × List MemPlace} (hl : cs.length = 24) (h : DataW.trod enc Try.prog W 0 (fun _ => true) true k 38 cs = some y) : ∀ u ∈ cs, u.oneCell' = true := by
  obtain ⟨xs, k', hk, hxy, _, hxl, hfd⟩ := DataW.trod_struct Try.underlying38 h
  match cs, hl with
  | [v0, v1, v2, v3, v4, v5, v6, v7, v8, v9, v10, v11, v12, v13, v14, v15, v16, v17, v18, v19, v20, v21, v22, v23], _ =>
    match xs, hxl with
    | [y0, y1, y2, y3, y4, y5, y6, y7, y8, y9, y10, y11, y12], _ =>
      have g0 := hfd 0 _ rfl
      have g1 := hfd 1 _ rfl
      have g2 := hfd 2 _ rfl
      have g3 := hfd 3 _ rfl
      have g4 := hfd 4 _ rfl
      have g5 := hfd 5 _ rfl
      have g6 := hfd 6 _ rfl
      have g7 := hfd 7 _ rfl
      have g8 := hfd 8 _ rfl
      have g9 := hfd 9 _ rfl
      have g10 := hfd 10 _ rfl
      have g11 := hfd 11 _ rfl
      have g12 := hfd 12 _ rfl
      simp [cellsI, cellsB, cellsC, cellsV, cellsY] at g0 g1 g2 g3 g4 g5 g6 g7 g8 g9 g10 g11 g12
      obtain ⟨b9, e9, _⟩ := DataW.trod_bool Try.underlying4 g9
      simp only [List.cons.injEq, and_true] at e9
      subst e9
      have oc := one_cmd (by rfl) g10
      have o0 := one_int Try.underlying3 g0
      have o1 := one_int Try.underlying3 g1
      have o2 := one_int Try.underlying3 g2
      have o3 := one_int Try.underlying3 g3
      have o4 := one_int Try.underlying3 g4
      have o5 := one_int Try.underlying3 g5
      have o6 := one_int Try.underlying3 g6
      have o7 := one_int Try.underlying3 g7
      have o8 := one_int Try.underlying3 g8
      have o22 := one_slice Try.underlying35 g11
      have o23 := one_slice Try.underlying36 g12
      intro u hu
      simp only [List.mem_cons, List.not_mem_nil, or_false] at hu oc
      rcases hu with rfl | rfl | rfl | rfl | rfl | rfl | rfl | rfl | rfl | rfl | hu
      · exact o0
      · exact o1
      · exact o2
      · exact o3
      · exact o4
      · exact o5
      · exact o6
      · exact o7
      · exact o8
      · rfl
      · rcases hu with hu | hu | hu | hu | hu | hu | hu | hu | hu | hu | hu | hu | hu | hu
        iterate 12 exact oc u (by simp [hu])
        · rw [hu]; exact o22
        · rw [hu]; exact o23
end
theorem cellsDo : Try.prog.cellsOf 40 = 26 := by kernel_rfl
/-- the calls lie there: their 26 cells each, of which the first two are what is done and the packet's number -/
def Dq (w : World) (pa : Option Addr) (L : Nat) (op ii : Nat → Int) : Prop :=
  ∀ r, r < L → ∃ b o cs, pa = some ⟨b, o, none⟩ ∧ w.rangeAt b (o + r * 26) (.int .i64 (op r) :: .int .i64 (ii r) :: cs) ∧ cs.length = 24 ∧ (Lit.int .i64 (ii r)).wf = true ∧ ∀ u ∈ cs, u.oneCell' = true
theorem Dq.keep {w w' : World} {pa : Option Addr} {L : Nat} {op ii : Nat → Int} (h : Dq w pa L op ii) (k : Kp (fun _ => False) w w') : Dq w' pa L op ii := fun r hr => by
  obtain ⟨b, o, cs, h1, h2, h3, h4⟩ := h r hr
  exact ⟨b, o, cs, h1, fun j v hv => k.cellv (h2 j v hv) id, h3, h4⟩
def Dqs (w : World) (v : Value) (L : Nat) : Prop := ∃ pa cap op ii, v = .slice pa L cap ∧ Dq w pa L op ii ∧ (L : Int) ≤ 9223372036854775807

set_option maxRecDepth 100000 in
set_option maxHeartbeats 800000 in
theorem dqs_of_trod {H : Type} {enc : TypeId × Value → H} {W : World} {a : Option Addr} {len cap : Nat} {d : DataW H} {p : List MemPlace}
    (h : DataW.Trod enc Try.prog W 0 (fun _ => true) true 22 (.slice a len cap) d p) : Dqs W (.slice a len cap) len := by
  obtain ⟨fuel, hf⟩ := h
  rcases open_slice Try.underlying22 hf with ⟨hcs, _⟩ | ⟨x, l, c, m, n, D, Pl, hcs, _, hl, hm, hmm, hx, hel⟩
  · simp [Value.cells] at hcs
    obtain ⟨rfl, rfl, rfl⟩ := hcs
    exact ⟨none, 0, fun _ => 0, fun _ => 0, rfl, fun r h => absurd h (Nat.not_lt_zero _), by omega⟩
  · simp [Value.cells] at hcs
    obtain ⟨rfl, rfl, rfl⟩ := hcs
    have hmc : m = cap := by simpa using hmm
    obtain ⟨b, off, spot⟩ := x
    have hmx : cap ≤ 9223372036854775807 := by simpa [maxLen] using hm
    rw [cellsDo] at hel
    by_cases h0 : len = 0
    · subst h0
      exact ⟨some ⟨b, off, spot⟩, cap, fun _ => 0, fun _ => 0, rfl, fun r h => absurd h (Nat.not_lt_zero _), by omega⟩
    have hspot : spot = none := by
      obtain ⟨cs', h1, _⟩ := hel 0 (by omega)
      obtain ⟨_, hlen, hcell⟩ := World.cells?_some h1
      have h00 := hcell 0 (by omega)
      rw [List.getElem?_eq_getElem (by omega)] at h00
      have := World.cell?_spot h00
      simpa [Addr.add] using this
    subst hspot
    have each : ∀ i, i < len → ∃ (op ii : Int) (cs : List Value), W.rangeAt b (off + i * 26) (.int .i64 op :: .int .i64 ii :: cs) ∧ cs.length = 24 ∧ (Lit.int .i64 ii).wf = true ∧ ∀ u ∈ cs, u.oneCell' = true := fun i hi => by
      obtain ⟨cs', h1, h2⟩ := hel i (by omega)
      obtain ⟨_, hlen, hcell⟩ := World.cells?_some h1
      obtain ⟨xs, k, hk, hxy, _, hxl, hfd⟩ := DataW.trod_struct Try.underlying40 h2
      match xs, hxl, cs', hlen with
      | [y0, y1, y2], _, v0 :: v1 :: cs, hlen =>
        have g0 := hfd 0 _ rfl
        have g1 := hfd 1 _ rfl
        have g2 := hfd 2 _ rfl
        have hcl : cs.length = 24 := by simpa using hlen
        simp [cellsI, cellsM] at g0 g1 g2
        rw [List.take_of_length_le (by omega)] at g2
        have hone := one_msg hcl g2
        obtain ⟨op, e0, _, _⟩ := DataW.trod_int Try.underlying3 g0
        obtain ⟨ii, e1, _, hwf⟩ := DataW.trod_int Try.underlying3 g1
        simp only [List.cons.injEq, and_true] at e0 e1
        subst e0 e1
        refine ⟨op, ii, cs, fun j v hv => ?_, by simpa using hlen, hwf, hone⟩
        have hj : j < 26 := by have := (List.getElem?_eq_some_iff.1 hv).1; simp at hlen this; omega
        have := hcell j hj
        rw [hv] at this
        rw [Addr.add_mid, Addr.add_mid] at this
        simpa using this
    refine ⟨some ⟨b, off, none⟩, cap, fun r => if h : r < len then (each r h).choose else 0, fun r => if h : r < len then (each r h).choose_spec.choose else 0, rfl, fun r hr => ?_, by omega⟩
    obtain ⟨cs, h1, h2, h3, h4⟩ := (each r hr).choose_spec.choose_spec
    refine ⟨b, off, cs, rfl, ?_, h2, ?_, h4⟩
    · simp only [dif_pos hr]; exact h1
    · simp only [dif_pos hr]; exact h3
end Go.Proofs.Ytiplhbpjppkniaa
