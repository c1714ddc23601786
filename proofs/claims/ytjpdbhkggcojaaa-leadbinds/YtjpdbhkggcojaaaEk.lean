/- How calls of a try come in. -/
import Derived.Test.YtjpdbhkggcojaaaEe
import Derived.Test.YtjpdbhkggcojaaaDi
import Derived.HandedShaped
namespace Go.Proofs.Ytjpdbhkggcojaaa
set_option linter.unusedVariables false
open Go.ChangeShapes Go.WideShapes Go.ChangeAt Go.RowKit Go.Deep

theorem wf_range {z : Int} (h : (Lit.int .i64 z).wf = true) : -9223372036854775808 ≤ z ∧ z ≤ 9223372036854775807 := by
  have h' : (decide (IntKind.i64.min ≤ z) && decide (z ≤ IntKind.i64.max)) = true := h
  rw [Bool.and_eq_true] at h'
  exact ⟨of_decide_eq_true h'.1, of_decide_eq_true h'.2⟩
theorem w_in {H : Type} {P : Program} {e : TypeId} {d : DataW H} : ∀ {l : List (DataW H)}, d ∈ l → ∀ n, n ∈ d.weights P e → n ∈ DataW.weightsAll P e l
  | [], h, _, _ => by cases h
  | x :: r, h, n, hn => by
    simp only [DataW.weightsAll, List.mem_append]
    rcases List.mem_cons.1 h with e | h
    · rw [← e]; exact Or.inl hn
    · exact Or.inr (w_in h n hn)
theorem w_all {H : Type} {ts : List TypeId} {ds : List (DataW H)} {j : Nat} {d : DataW H} {t : TypeId} (h : (DataW.weightsEach Try.prog ts ds).all (· ≤ reachBytes) = true) (ht : ts[j]? = some t) (hd : ds[j]? = some d) : ∀ n ∈ d.weights Try.prog t, n ≤ 140737488355328 := fun n hn => by
  have hr : reachBytes ≤ 140737488355328 := by have := reachBytes_lt; omega
  have h3 := of_decide_eq_true (List.all_eq_true.1 h _ (DataW.weights_mem_each ht hd n hn))
  omega
theorem cellsI : Try.prog.cellsOf 3 = 1 := by kernel_rfl
theorem cellsS : Try.prog.cellsOf 9 = 1 := by kernel_rfl
theorem cellsU : Try.prog.cellsOf 31 = 1 := by kernel_rfl
theorem cellsN : Try.prog.cellsOf 23 = 1 := by kernel_rfl
theorem cellsV : Try.prog.cellsOf 36 = 1 := by kernel_rfl
theorem cellsC : Try.prog.cellsOf 35 = 12 := by kernel_rfl
theorem cellsK : Try.prog.cellsOf 33 = 2 := by kernel_rfl
theorem cellsVo : Try.prog.cellsOf 55 = 14 := by kernel_rfl
theorem bytesVo : Try.prog.bytesOf 55 = 136 := by kernel_rfl
theorem bytesI : Try.prog.bytesOf 3 = 8 := by kernel_rfl
theorem cellsDo : Try.prog.cellsOf 38 = 16 := by kernel_rfl
theorem bytesDo : Try.prog.bytesOf 38 = 168 := by kernel_rfl
/-- a call: its numbers, its command, its votes -/
structure Dl where
  (op node slot : Int) (c : Cs0) (nodes : List Int) (votes : List Vo)
abbrev dcell (x : Dl) (nv vv : Value) : List Value := .int .i64 x.op :: .int .i64 x.node :: .int .i64 x.slot :: ((cmdA x.c nv).toList ++ [vv])
/-- votes that lie there -/
def Vs (w : World) (Z : Nat → Prop) (vs : List Vo) (vv : Value) : Prop := ∃ p c l, vv = .slice p vs.length c ∧ l.map (·.1) = vs ∧ Fl w Z p (vflat l) ∧ Vn w Z l ∧ vs.length * 136 ≤ 140737488355328 ∧ ∀ v ∈ vs, -9223372036854775808 ≤ v.slot ∧ v.slot ≤ 9223372036854775807
theorem Vs.keep {S Z : Nat → Prop} {w w' : World} {vs : List Vo} {vv : Value} (h : Vs w Z vs vv) (k : Kp S w w') (hS : ∀ b, Z b → ¬ S b) : Vs w' Z vs vv := by
  obtain ⟨p, c, l, e, hl, hf, hv, hn, hs⟩ := h
  exact ⟨p, c, l, e, hl, hf.keep k hS, hv.keep k hS, hn, hs⟩
/-- the call number i lies there -/
structure Dat (w : World) (p : Option Addr) (i : Nat) (x : Dl) (nv vv : Value) : Prop where
  r : ∃ b o, p = some ⟨b, o, none⟩ ∧ b < w.heap.size ∧ w.rangeAt b (o + i * 16) (dcell x nv vv)
  n : Ni w (· < w.heap.size) x.nodes nv
  v : Vs w (· < w.heap.size) x.votes vv
  f : (-9223372036854775808 ≤ x.slot ∧ x.slot ≤ 9223372036854775807) ∧ (-9223372036854775808 ≤ x.node ∧ x.node ≤ 9223372036854775807)
def Dls (w : World) (v : Value) (L : Nat) : Prop := ∃ p c, ∃ D : Nat → Dl, v = .slice p L c ∧ L ≤ c ∧ L * 168 ≤ 140737488355328 ∧ ∀ i, i < L → ∃ nv vv, Dat w p i (D i) nv vv
section
variable {H : Type} {enc : TypeId × Value → H} {W : World}
theorem fl_ints {v : Value} {k : Nat} {y : DataW H × List MemPlace} (h : DataW.trod enc Try.prog W 0 (fun _ => true) true k 23 [v] = some y) (hw : ∀ n ∈ y.1.weights Try.prog 23, n ≤ 140737488355328) :
    ∃ p c zs, v = .slice p zs.length c ∧ Fl W (· < W.heap.size) p (List.map encI zs) ∧ zs.length * 8 ≤ 140737488355328 := by
  have hw' : ∀ elems spare, y.1 = .slice elems spare → (elems.length + spare.length) * 8 ≤ 140737488355328 := fun elems spare he => by
    have := hw ((elems.length + spare.length) * Try.prog.bytesOf 3) (by rw [he]; simp [DataW.weights, Try.underlying23])
    rw [bytesI] at this
    exact this
  rcases open_ints Try.underlying23 Try.underlying3 (by kernel_rfl) h with ⟨hcs, _⟩ | ⟨x, l, c, zs, hcs, hxx, hl, hm, hz, hDx, hcell, hwz⟩
  · have hv : v = .slice none 0 0 := by simpa using hcs
    exact ⟨none, 0, [], hv, fun j u hu => by simp at hu, by simp⟩
  · have hv : v = .slice (some x) l c := by simpa using hcs
    have hz' : zs.length = c := by simpa using hz
    have hlen := hw' _ _ (by rw [hDx])
    simp only [lits, List.length_map, List.length_take, List.length_drop] at hlen
    have hll : (zs.take l).length = l := by rw [List.length_take]; omega
    refine ⟨some x, c, zs.take l, by rw [hll]; exact hv, fun j u hu => ?_, by rw [hll]; omega⟩
    have hj : j < l := by have := (List.getElem?_eq_some_iff.1 hu).1; rw [List.length_map, hll] at this; exact this
    obtain ⟨b, off, spot⟩ := x
    have hc := hcell j (by omega)
    have hspot : spot = none := by
      have := World.cell?_spot (hcell 0 (by omega))
      simpa [Addr.add] using this
    subst hspot
    rw [show (⟨b, off, none⟩ : Addr).add j = ⟨b, off + j, none⟩ from by by_cases e : j = 0 <;> simp [Addr.add, e]] at hc
    rw [List.getElem?_map, List.getElem?_take_of_lt hj, List.getElem?_eq_getElem (by omega)] at hu
    injection hu with hu
    subst hu
    rw [List.getD_eq_getElem?_getD, List.getElem?_eq_getElem (by omega)] at hc
    exact ⟨b, off, rfl, World.block_lt_of_cell? W _ hc, hc⟩
theorem two_code {k : Nat} {a b : Value} {y : DataW H × List MemPlace} (h : DataW.trod enc Try.prog W 0 (fun _ => true) true k 33 [a, b] = some y) : ∃ k m : Int, a = .int .i64 k ∧ b = .int .i64 m := by
  obtain ⟨xs, k', hk, hxy, _, hxl, hfd⟩ := DataW.trod_struct Try.underlying33 h
  match xs, hxl with
  | [y0, y1], _ =>
    have g0 := hfd 0 _ rfl
    have g1 := hfd 1 _ rfl
    simp [cellsI] at g0 g1
    obtain ⟨z0, e0, _, _⟩ := DataW.trod_int Try.underlying3 g0
    obtain ⟨z1, e1, _, _⟩ := DataW.trod_int Try.underlying3 g1
    simp only [List.cons.injEq, and_true] at e0 e1
    exact ⟨z0, z1, e0, e1⟩
set_option maxRecDepth 100000 in
theorem cmd_in {k : Nat} {cs : List Value} {y : DataW H × List MemPlace} (hl : cs.length = 12) (h : DataW.trod enc Try.prog W 0 (fun _ => true) true k 35 cs = some y) (hw : ∀ n ∈ y.1.weights Try.prog 35, n ≤ 140737488355328) :
    ∃ (c : Cs0) (p : Option Addr) (cp : Nat) (zs : List Int), cs = (cmdA c (.slice p zs.length cp)).toList ∧ Fl W (· < W.heap.size) p (List.map encI zs) ∧ zs.length * 8 ≤ 140737488355328 := by
  obtain ⟨xs, k', hk, hxy, _, hxl, hfd⟩ := DataW.trod_struct Try.underlying35 h
  match cs, hl with
  | [v0, v1, v2, v3, v4, v5, v6, v7, v8, v9, v10, v11], _ =>
    match xs, hxl with
    | [y0, y1, y2, y3, y4, y5, y6, y7, y8, y9, y10], _ =>
      have g0 := hfd 0 _ rfl
      have g1 := hfd 1 _ rfl
      have g2 := hfd 2 _ rfl
      have g3 := hfd 3 _ rfl
      have g4 := hfd 4 _ rfl
      have g5 := hfd 5 _ rfl
      have g6 := hfd 6 _ rfl
      have g7 := hfd 7 _ rfl
      have g8 := hfd 8 _ rfl
      have g9 := hfd 9 _ rfl
      have g10 := hfd 10 _ rfl
      simp [cellsI, cellsS, cellsU, cellsK, cellsN] at g0 g1 g2 g3 g4 g5 g6 g7 g8 g9 g10
      have hd := (Prod.mk.inj hxy).1
      obtain ⟨p, cp, zs, e11, hf, hz⟩ := fl_ints g10 (fun n hn => hw n (by
        rw [hd]
        simp only [DataW.weights, Try.underlying35]
        exact DataW.weights_mem_each (j := 10) (t := 23) rfl rfl n hn))
      obtain ⟨s2, e2, _, _⟩ := DataW.trod_string Try.underlying9 g2
      obtain ⟨z9, z10, e9, e10⟩ := two_code g9
      obtain ⟨z0, e0, _, _⟩ := DataW.trod_int Try.underlying3 g0
      obtain ⟨z1, e1, _, _⟩ := DataW.trod_int Try.underlying3 g1
      obtain ⟨z3, e3, _, _⟩ := DataW.trod_int Try.underlying3 g3
      obtain ⟨z4, e4, _, _⟩ := DataW.trod_int Try.underlying3 g4
      obtain ⟨z5, e5, _, _⟩ := DataW.trod_int Try.underlying3 g5
      obtain ⟨z6, e6, _, _⟩ := DataW.trod_int Try.underlying3 g6
      obtain ⟨z7, e7, _, _⟩ := DataW.trod_int Try.underlying3 g7
      obtain ⟨z8, e8, _, _⟩ := DataW.trod_int Try.underlying31 g8
      simp only [List.cons.injEq, and_true] at e0 e1 e2 e3 e4 e5 e6 e7 e8
      subst e0 e1 e2 e3 e4 e5 e6 e7 e8 e9 e10 e11
      exact ⟨⟨z0, z1, s2, z3, z4, z5, z6, z7, z8, z9, z10⟩, p, cp, zs, rfl, hf, hz⟩
set_option maxRecDepth 100000 in
theorem vote_in {k : Nat} {cs : List Value} {y : DataW H × List MemPlace} (hl : cs.length = 14) (h : DataW.trod enc Try.prog W 0 (fun _ => true) true k 55 cs = some y) (hw : ∀ n ∈ y.1.weights Try.prog 55, n ≤ 140737488355328) :
    ∃ (v : Vo) (p : Option Addr) (cp : Nat), cs = vcell v (.slice p v.nodes.length cp) ∧ Fl W (· < W.heap.size) p (v.nodes.map encI) ∧ v.nodes.length * 8 ≤ 140737488355328 ∧ (-9223372036854775808 ≤ v.slot ∧ v.slot ≤ 9223372036854775807) := by
  obtain ⟨xs, k', hk, hxy, _, hxl, hfd⟩ := DataW.trod_struct Try.underlying55 h
  match cs, hl with
  | v0 :: v1 :: cs, hl =>
    match xs, hxl with
    | [y0, y1, y2], _ =>
      have g0 := hfd 0 _ rfl
      have g1 := hfd 1 _ rfl
      have g2 := hfd 2 _ rfl
      have hcl : cs.length = 12 := by simpa using hl
      simp [cellsI, cellsC] at g0 g1 g2
      rw [List.take_of_length_le (by omega)] at g2
      have hd := (Prod.mk.inj hxy).1
      obtain ⟨c, p, cp, zs, e, hf, hz⟩ := cmd_in hcl g2 (fun n hn => hw n (by
        rw [hd]
        simp only [DataW.weights, Try.underlying55]
        exact DataW.weights_mem_each (j := 2) (t := 35) rfl rfl n hn))
      obtain ⟨z0, e0, _, wf0⟩ := DataW.trod_int Try.underlying3 g0
      obtain ⟨z1, e1, _, _⟩ := DataW.trod_int Try.underlying3 g1
      simp only [List.cons.injEq, and_true] at e0 e1
      subst e0 e1
      exact ⟨⟨z0, z1, c, zs⟩, p, cp, by rw [e], hf, hz, wf_range wf0⟩
theorem votes_in {v : Value} {k : Nat} {y : DataW H × List MemPlace} (h : DataW.trod enc Try.prog W 0 (fun _ => true) true k 36 [v] = some y) (hw : ∀ n ∈ y.1.weights Try.prog 36, n ≤ 140737488355328) :
    ∃ (p : Option Addr) (c : Nat) (l : List (Vo × Value)), v = .slice p l.length c ∧ Fl W (· < W.heap.size) p (vflat l) ∧ Vn W (· < W.heap.size) l ∧ l.length * 136 ≤ 140737488355328 ∧ ∀ x ∈ l, -9223372036854775808 ≤ x.1.slot ∧ x.1.slot ≤ 9223372036854775807 := by
  rcases open_slice Try.underlying36 h with ⟨hcs, _⟩ | ⟨x, len, cap, m, n, D, Pl, hcs, _, hl, hm, hmm, hx, hel⟩
  · have hv : v = .slice none 0 0 := by simpa using hcs
    exact ⟨none, 0, [], hv, fun j u hu => by simp [vflat] at hu, fun x hx => (by cases hx), by simp, fun x hx => (by cases hx)⟩
  · have hv : v = .slice (some x) len cap := by simpa using hcs
    have hmc : m = cap := by simpa using hmm
    have hd := (Prod.mk.inj hx).1
    have hwD : ∀ i, i < len → ∀ n ∈ (D i).weights Try.prog 55, n ≤ 140737488355328 := fun i hi n hn => hw n (by
      rw [hd]
      simp only [DataW.weights, Try.underlying36, List.mem_cons, List.mem_append]
      exact Or.inr (Or.inl (w_in (List.mem_map.2 ⟨i, List.mem_range.2 hi, rfl⟩) n hn)))
    have hwl : len * 136 ≤ 140737488355328 := by
      have := hw ((len + (m - len)) * Try.prog.bytesOf 55) (by rw [hd]; simp [DataW.weights, Try.underlying36])
      rw [bytesVo] at this
      omega
    rw [cellsVo] at hel
    obtain ⟨b, off, spot⟩ := x
    by_cases h0 : len = 0
    · subst h0
      exact ⟨some ⟨b, off, spot⟩, cap, [], hv, fun j u hu => by simp [vflat] at hu, fun x hx => (by cases hx), by simp, fun x hx => (by cases hx)⟩
    have hspot : spot = none := by
      obtain ⟨cs', h1, _⟩ := hel 0 (by omega)
      obtain ⟨_, hlen, hcell⟩ := World.cells?_some h1
      have h00 := hcell 0 (by omega)
      rw [List.getElem?_eq_getElem (by omega)] at h00
      have := World.cell?_spot h00
      simpa [Addr.add] using this
    subst hspot
    have all : ∀ k, k ≤ len → ∃ l : List (Vo × Value), l.length = k ∧ Fl W (· < W.heap.size) (some ⟨b, off, none⟩) (vflat l) ∧ Vn W (· < W.heap.size) l ∧ ∀ x ∈ l, -9223372036854775808 ≤ x.1.slot ∧ x.1.slot ≤ 9223372036854775807 := fun k => by
      induction k with
      | zero => exact fun _ => ⟨[], rfl, fun j u hu => by simp [vflat] at hu, fun x hx => (by cases hx), fun x hx => (by cases hx)⟩
      | succ k ih =>
        intro hk
        obtain ⟨l, hll, hf, hv, hS⟩ := ih (by omega)
        obtain ⟨cs', h1, h2⟩ := hel k (by omega)
        obtain ⟨_, hlen, hcell⟩ := World.cells?_some h1
        obtain ⟨vo, p, cp, rfl, hfn, hnn, hsl⟩ := vote_in hlen h2 (hwD k (by omega))
        refine ⟨l ++ [(vo, .slice p vo.nodes.length cp)], by rw [List.length_append, hll]; rfl, fun j u hu => ?_, fun x hx => ?_, fun x hx => ?_⟩
        · rw [vflat_append] at hu
          by_cases hj : j < k * 14
          · rw [List.getElem?_append_left (by rw [vflat_len, hll]; exact hj)] at hu
            exact hf j u hu
          · rw [List.getElem?_append_right (by rw [vflat_len, hll]; omega), vflat_len, hll] at hu
            have hu' : (vcell vo (.slice p vo.nodes.length cp))[j - k * 14]? = some u := by
              have e : vflat [(vo, .slice p vo.nodes.length cp)] = vcell vo (.slice p vo.nodes.length cp) := by show vcell _ _ ++ [] = _; rw [List.append_nil]
              rw [e] at hu
              exact hu
            have hjl : j - k * 14 < 14 := (List.getElem?_eq_some_iff.1 hu').1
            have hc := hcell (j - k * 14) hjl
            rw [hu'] at hc
            rw [Addr.add_mid, Addr.add_mid, show off + k * 14 + (j - k * 14) = off + j by omega] at hc
            exact ⟨b, off, rfl, World.block_lt_of_cell? W _ hc, hc⟩
        · rcases List.mem_append.1 hx with hx | hx
          · exact hv x hx
          · rw [List.mem_singleton] at hx
            subst hx
            exact ⟨p, cp, rfl, hfn, hnn⟩
        · rcases List.mem_append.1 hx with hx | hx
          · exact hS x hx
          · rw [List.mem_singleton] at hx
            subst hx
            exact hsl
    obtain ⟨l, hll, hf, hvn, hS⟩ := all len (Nat.le_refl _)
    exact ⟨some ⟨b, off, none⟩, cap, l, by rw [hll]; exact hv, hf, hvn, by rw [hll]; exact hwl, hS⟩
set_option maxRecDepth 100000 in
theorem do_in {k : Nat} {cs : List Value} {y : DataW H × List MemPlace} (hl : cs.length = 16) (h : DataW.trod enc Try.prog W 0 (fun _ => true) true k 38 cs = some y) (hw : ∀ n ∈ y.1.weights Try.prog 38, n ≤ 140737488355328) :
    ∃ (x : Dl) (nv vv : Value), cs = dcell x nv vv ∧ Ni W (· < W.heap.size) x.nodes nv ∧ Vs W (· < W.heap.size) x.votes vv ∧ (-9223372036854775808 ≤ x.slot ∧ x.slot ≤ 9223372036854775807) ∧ (-9223372036854775808 ≤ x.node ∧ x.node ≤ 9223372036854775807) := by
  obtain ⟨xs, k', hk, hxy, _, hxl, hfd⟩ := DataW.trod_struct Try.underlying38 h
  obtain ⟨v0, v1, v2, r, rfl⟩ : ∃ v0 v1 v2 r, cs = v0 :: v1 :: v2 :: r := by
    match cs, hl with
    | v0 :: v1 :: v2 :: r, _ => exact ⟨v0, v1, v2, r, rfl⟩
  have hrl : r.length = 13 := by simpa using hl
  obtain ⟨cc, v15, rfl, hcc⟩ : ∃ cc v15, r = cc ++ [v15] ∧ cc.length = 12 := by
    refine ⟨r.take 12, r[12], ?_, by rw [List.length_take]; omega⟩
    have : r.drop 12 = [r[12]] := by
      rw [List.drop_eq_getElem_cons (by omega), List.drop_of_length_le (by omega)]
    rw [← this, List.take_append_drop]
  match xs, hxl with
  | [y0, y1, y2, y3, y4], _ =>
    have hd := (Prod.mk.inj hxy).1
    have hwF : ∀ (j : Nat) (t : TypeId) (y' : DataW H), [3, 3, 3, 35, 36][j]? = some t → [y0.1, y1.1, y2.1, y3.1, y4.1][j]? = some y' → ∀ n ∈ y'.weights Try.prog t, n ≤ 140737488355328 := fun j t y' ht hy n hn => hw n (by
      rw [hd]
      simp only [DataW.weights, Try.underlying38]
      exact DataW.weights_mem_each (j := j) ht hy n hn)
    have g0 := hfd 0 _ rfl
    have g1 := hfd 1 _ rfl
    have g2 := hfd 2 _ rfl
    have g3 := hfd 3 _ rfl
    have g4 := hfd 4 _ rfl
    simp [cellsI] at g0 g1 g2
    have e3 : List.take (Try.prog.cellsOf 35) (List.drop 3 (v0 :: v1 :: v2 :: (cc ++ [v15]))) = cc := by
      rw [cellsC]; show List.take 12 (cc ++ [v15]) = cc; rw [List.take_append_of_le_length (by omega), List.take_of_length_le (by omega)]
    have e4 : List.take (Try.prog.cellsOf 36) (List.drop 15 (v0 :: v1 :: v2 :: (cc ++ [v15]))) = [v15] := by
      rw [cellsV]; show List.take 1 (List.drop 12 (cc ++ [v15])) = [v15]; rw [List.drop_append_of_le_length (by omega), List.drop_of_length_le (by omega)]; rfl
    have g3' : DataW.trod enc Try.prog W 0 (fun _ => true) true k' 35 cc = some y3 := by rw [← e3]; exact g3
    have g4' : DataW.trod enc Try.prog W 0 (fun _ => true) true k' 36 [v15] = some y4 := by rw [← e4]; exact g4
    obtain ⟨c, p, cp, zs, ec, hf, hz⟩ := cmd_in hcc g3' (hwF 3 _ _ rfl rfl)
    obtain ⟨pv, cv, l, ev, hfv, hvn, hvl, hvs⟩ := votes_in g4' (hwF 4 _ _ rfl rfl)
    obtain ⟨z0, e0, _, _⟩ := DataW.trod_int Try.underlying3 g0
    obtain ⟨z1, e1, _, f1⟩ := DataW.trod_int Try.underlying3 g1
    obtain ⟨z2, e2, _, f2⟩ := DataW.trod_int Try.underlying3 g2
    simp only [List.cons.injEq, and_true] at e0 e1 e2
    subst e0 e1 e2 ec ev
    refine ⟨⟨z0, z1, z2, c, zs, l.map (·.1)⟩, _, _, rfl, ⟨p, cp, rfl, hf, hz⟩, ⟨pv, cv, l, by rw [List.length_map], rfl, hfv, hvn, by rw [List.length_map]; exact hvl, fun v hv => ?_⟩, wf_range f2, wf_range f1⟩
    obtain ⟨x, hx, rfl⟩ := List.mem_map.1 hv
    exact hvs x hx
theorem dls_of_trod {a : Option Addr} {len cap : Nat} {d : DataW H} {p : List MemPlace} (h : DataW.Trod enc Try.prog W 0 (fun _ => true) true 22 (.slice a len cap) d p) (hw : ∀ n ∈ d.weights Try.prog 22, n ≤ 140737488355328) : Dls W (.slice a len cap) len := by
  obtain ⟨fuel, hf⟩ := h
  have dz : Dl := ⟨0, 0, 0, cs00, [], []⟩
  rcases open_slice Try.underlying22 hf with ⟨hcs, _⟩ | ⟨x, l, c, m, n, D, Pl, hcs, _, hl, hm, hmm, hx, hel⟩
  · simp [Value.cells] at hcs
    obtain ⟨rfl, rfl, rfl⟩ := hcs
    exact ⟨none, 0, fun _ => dz, rfl, Nat.le_refl _, by omega, fun i h => absurd h (Nat.not_lt_zero _)⟩
  · simp [Value.cells] at hcs
    obtain ⟨rfl, rfl, rfl⟩ := hcs
    have hmc : m = cap := by simpa using hmm
    have hd := (Prod.mk.inj hx).1
    have hwD : ∀ i, i < len → ∀ n ∈ (D i).weights Try.prog 38, n ≤ 140737488355328 := fun i hi n hn => hw n (by
      rw [hd]
      simp only [DataW.weights, Try.underlying22, List.mem_cons, List.mem_append]
      exact Or.inr (Or.inl (w_in (List.mem_map.2 ⟨i, List.mem_range.2 hi, rfl⟩) n hn)))
    have hwl : len * 168 ≤ 140737488355328 := by
      have := hw ((len + (m - len)) * Try.prog.bytesOf 38) (by rw [hd]; simp [DataW.weights, Try.underlying22])
      rw [bytesDo] at this
      omega
    rw [cellsDo] at hel
    obtain ⟨b, off, spot⟩ := x
    by_cases h0 : len = 0
    · subst h0
      exact ⟨some ⟨b, off, spot⟩, cap, fun _ => dz, rfl, hl, by omega, fun i h => absurd h (Nat.not_lt_zero _)⟩
    have hspot : spot = none := by
      obtain ⟨cs', h1, _⟩ := hel 0 (by omega)
      obtain ⟨_, hlen, hcell⟩ := World.cells?_some h1
      have h00 := hcell 0 (by omega)
      rw [List.getElem?_eq_getElem (by omega)] at h00
      have := World.cell?_spot h00
      simpa [Addr.add] using this
    subst hspot
    have each : ∀ i, i < len → ∃ (x : Dl) (nv vv : Value), Dat W (some ⟨b, off, none⟩) i x nv vv := fun i hi => by
      obtain ⟨cs', h1, h2⟩ := hel i (by omega)
      obtain ⟨_, hlen, hcell⟩ := World.cells?_some h1
      obtain ⟨x, nv, vv, rfl, hn, hv, hs⟩ := do_in hlen h2 (hwD i hi)
      have hr : W.rangeAt b (off + i * 16) (dcell x nv vv) := fun j v hv => by
        have hj : j < 16 := by have := (List.getElem?_eq_some_iff.1 hv).1; simpa using this
        have := hcell j hj
        rw [hv] at this
        rw [Addr.add_mid, Addr.add_mid] at this
        exact this
      have hc0 : W.cell? ⟨b, off + i * 16 + 0, none⟩ = some (.int .i64 x.op) := hr 0 _ rfl
      exact ⟨x, nv, vv, ⟨b, off, rfl, World.block_lt_of_cell? W _ hc0, hr⟩, hn, hv, hs⟩
    refine ⟨some ⟨b, off, none⟩, cap, fun r => if h : r < len then (each r h).choose else dz, rfl, hl, hwl, fun r hr => ?_⟩
    obtain ⟨nv, vv, hD⟩ := (each r hr).choose_spec
    refine ⟨nv, vv, ?_⟩
    simp only [dif_pos hr]
    exact hD
end
end Go.Proofs.Ytjpdbhkggcojaaa
