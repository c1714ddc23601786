/- How commands and votes come in. -/
import Derived.Test.YtjbgpbafgpdciaaCl
import Derived.Test.YtjbgpbafgpdciaaFt
import Derived.HandedShaped
import Derived.Deep.Slices
namespace Go.Proofs.Ytjbgpbafgpdciaa
set_option linter.unusedVariables false
open Go.ChangeShapes Go.WideShapes Go.ChangeAt Go.RowKit Go.Deep

/-- a command that was handed in -/
def CmdIn (w : World) (cs : Array Value) : Prop := ∃ (c : Cs0) (zs : List Int) (nv : Value), cs = cmdA c nv ∧ Ni w (· < w.heap.size) zs nv
/-- votes that were handed in -/
def VotesIn (w : World) (v : Value) (L : Nat) : Prop := ∃ (p : Option Addr) (c : Nat) (l : List (Vo × Value)), v = .slice p L c ∧ L = l.length ∧ Fl w (· < w.heap.size) p (vflat l) ∧ Vn w (· < w.heap.size) l ∧ l.length * 136 ≤ 140737488355328 ∧ ∀ x ∈ l, -9223372036854775808 ≤ x.1.slot ∧ x.1.slot ≤ 9223372036854775807
theorem wf_range {z : Int} (h : (Lit.int .i64 z).wf = true) : -9223372036854775808 ≤ z ∧ z ≤ 9223372036854775807 := by
  have h' : (decide (IntKind.i64.min ≤ z) && decide (z ≤ IntKind.i64.max)) = true := h
  rw [Bool.and_eq_true] at h'
  exact ⟨of_decide_eq_true h'.1, of_decide_eq_true h'.2⟩
theorem w_in {H : Type} {P : Program} {e : TypeId} {d : DataW H} : ∀ {l : List (DataW H)}, d ∈ l → ∀ n, n ∈ d.weights P e → n ∈ DataW.weightsAll P e l
  | [], h, _, _ => by cases h
  | x :: r, h, n, hn => by
    simp only [DataW.weightsAll, List.mem_append]
    rcases List.mem_cons.1 h with e | h
    · rw [← e]; exact Or.inl hn
    · exact Or.inr (w_in h n hn)
theorem w_all {H : Type} {ts : List TypeId} {ds : List (DataW H)} {j : Nat} {d : DataW H} {t : TypeId} (h : (DataW.weightsEach Try.prog ts ds).all (· ≤ reachBytes) = true) (ht : ts[j]? = some t) (hd : ds[j]? = some d) : ∀ n ∈ d.weights Try.prog t, n ≤ 140737488355328 := fun n hn => by
  have hr : reachBytes ≤ 140737488355328 := by have := reachBytes_lt; omega
  have h3 := of_decide_eq_true (List.all_eq_true.1 h _ (DataW.weights_mem_each ht hd n hn))
  omega
theorem cellsI : Try.prog.cellsOf 3 = 1 := by kernel_rfl
theorem cellsS : Try.prog.cellsOf 9 = 1 := by kernel_rfl
theorem cellsU : Try.prog.cellsOf 29 = 1 := by kernel_rfl
theorem cellsN : Try.prog.cellsOf 32 = 1 := by kernel_rfl
theorem cellsV : Try.prog.cellsOf 22 = 1 := by kernel_rfl
theorem cellsC : Try.prog.cellsOf 34 = 12 := by kernel_rfl
theorem cellsK : Try.prog.cellsOf 31 = 2 := by kernel_rfl
theorem cellsVo : Try.prog.cellsOf 36 = 14 := by kernel_rfl
theorem bytesVo : Try.prog.bytesOf 36 = 136 := by kernel_rfl
theorem bytesI : Try.prog.bytesOf 3 = 8 := by kernel_rfl
section
variable {H : Type} {enc : TypeId × Value → H} {W : World}
theorem fl_ints {v : Value} {k : Nat} {y : DataW H × List MemPlace} (h : DataW.trod enc Try.prog W 0 (fun _ => true) true k 32 [v] = some y) (hw : ∀ n ∈ y.1.weights Try.prog 32, n ≤ 140737488355328) :
    ∃ p c zs, v = .slice p zs.length c ∧ Fl W (· < W.heap.size) p (List.map encI zs) ∧ zs.length * 8 ≤ 140737488355328 := by
  have hw' : ∀ elems spare, y.1 = .slice elems spare → (elems.length + spare.length) * 8 ≤ 140737488355328 := fun elems spare he => by
    have := hw ((elems.length + spare.length) * Try.prog.bytesOf 3) (by rw [he]; simp [DataW.weights, Try.underlying32])
    rw [bytesI] at this
    exact this
  rcases open_ints Try.underlying32 Try.underlying3 (by kernel_rfl) h with ⟨hcs, _⟩ | ⟨x, l, c, zs, hcs, hxx, hl, hm, hz, hDx, hcell, hwz⟩
  · have hv : v = .slice none 0 0 := by simpa using hcs
    exact ⟨none, 0, [], hv, fun j u hu => by simp at hu, by simp⟩
  · have hv : v = .slice (some x) l c := by simpa using hcs
    have hz' : zs.length = c := by simpa using hz
    have hlen := hw' _ _ (by rw [hDx])
    simp only [lits, List.length_map, List.length_take, List.length_drop] at hlen
    have hll : (zs.take l).length = l := by rw [List.length_take]; omega
    refine ⟨some x, c, zs.take l, by rw [hll]; exact hv, fun j u hu => ?_, by rw [hll]; omega⟩
    have hj : j < l := by have := (List.getElem?_eq_some_iff.1 hu).1; rw [List.length_map, hll] at this; exact this
    obtain ⟨b, off, spot⟩ := x
    have hc := hcell j (by omega)
    have hspot : spot = none := by
      have := World.cell?_spot (hcell 0 (by omega))
      simpa [Addr.add] using this
    subst hspot
    rw [show (⟨b, off, none⟩ : Addr).add j = ⟨b, off + j, none⟩ from by by_cases e : j = 0 <;> simp [Addr.add, e]] at hc
    rw [List.getElem?_map, List.getElem?_take_of_lt hj, List.getElem?_eq_getElem (by omega)] at hu
    injection hu with hu
    subst hu
    rw [List.getD_eq_getElem?_getD, List.getElem?_eq_getElem (by omega)] at hc
    exact ⟨b, off, rfl, World.block_lt_of_cell? W _ hc, hc⟩
theorem two_code {k : Nat} {a b : Value} {y : DataW H × List MemPlace} (h : DataW.trod enc Try.prog W 0 (fun _ => true) true k 31 [a, b] = some y) : ∃ k m : Int, a = .int .i64 k ∧ b = .int .i64 m := by
  obtain ⟨xs, k', hk, hxy, _, hxl, hfd⟩ := DataW.trod_struct Try.underlying31 h
  match xs, hxl with
  | [y0, y1], _ =>
    have g0 := hfd 0 _ rfl
    have g1 := hfd 1 _ rfl
    simp [cellsI] at g0 g1
    obtain ⟨z0, e0, _, _⟩ := DataW.trod_int Try.underlying3 g0
    obtain ⟨z1, e1, _, _⟩ := DataW.trod_int Try.underlying3 g1
    simp only [List.cons.injEq, and_true] at e0 e1
    exact ⟨z0, z1, e0, e1⟩
set_option maxRecDepth 100000 in
theorem cmd_in {k : Nat} {cs : List Value} {y : DataW H × List MemPlace} (hl : cs.length = 12) (h : DataW.trod enc Try.prog W 0 (fun _ => true) true k 34 cs = some y) (hw : ∀ n ∈ y.1.weights Try.prog 34, n ≤ 140737488355328) :
    ∃ (c : Cs0) (p : Option Addr) (cp : Nat) (zs : List Int), cs = (cmdA c (.slice p zs.length cp)).toList ∧ Fl W (· < W.heap.size) p (List.map encI zs) ∧ zs.length * 8 ≤ 140737488355328 := by
  obtain ⟨xs, k', hk, hxy, _, hxl, hfd⟩ := DataW.trod_struct Try.underlying34 h
  match cs, hl with
  | [v0, v1, v2, v3, v4, v5, v6, v7, v8, v9, v10, v11], _ =>
    match xs, hxl with
    | [y0, y1, y2, y3, y4, y5, y6, y7, y8, y9, y10], _ =>
      have g0 := hfd 0 _ rfl
      have g1 := hfd 1 _ rfl
      have g2 := hfd 2 _ rfl
      have g3 := hfd 3 _ rfl
      have g4 := hfd 4 _ rfl
      have g5 := hfd 5 _ rfl
      have g6 := hfd 6 _ rfl
      have g7 := hfd 7 _ rfl
      have g8 := hfd 8 _ rfl
      have g9 := hfd 9 _ rfl
      have g10 := hfd 10 _ rfl
      simp [cellsI, cellsS, cellsU, cellsK, cellsN] at g0 g1 g2 g3 g4 g5 g6 g7 g8 g9 g10
      have hd := (Prod.mk.inj hxy).1
      obtain ⟨p, cp, zs, e11, hf, hz⟩ := fl_ints g10 (fun n hn => hw n (by
        rw [hd]
        simp only [DataW.weights, Try.underlying34]
        exact DataW.weights_mem_each (j := 10) (t := 32) rfl rfl n hn))
      obtain ⟨s2, e2, _, _⟩ := DataW.trod_string Try.underlying9 g2
      obtain ⟨z9, z10, e9, e10⟩ := two_code g9
      obtain ⟨z0, e0, _, _⟩ := DataW.trod_int Try.underlying3 g0
      obtain ⟨z1, e1, _, _⟩ := DataW.trod_int Try.underlying3 g1
      obtain ⟨z3, e3, _, _⟩ := DataW.trod_int Try.underlying3 g3
      obtain ⟨z4, e4, _, _⟩ := DataW.trod_int Try.underlying3 g4
      obtain ⟨z5, e5, _, _⟩ := DataW.trod_int Try.underlying3 g5
      obtain ⟨z6, e6, _, _⟩ := DataW.trod_int Try.underlying3 g6
      obtain ⟨z7, e7, _, _⟩ := DataW.trod_int Try.underlying3 g7
      obtain ⟨z8, e8, _, _⟩ := DataW.trod_int Try.underlying29 g8
      simp only [List.cons.injEq, and_true] at e0 e1 e2 e3 e4 e5 e6 e7 e8
      subst e0 e1 e2 e3 e4 e5 e6 e7 e8 e9 e10 e11
      exact ⟨⟨z0, z1, s2, z3, z4, z5, z6, z7, z8, z9, z10⟩, p, cp, zs, rfl, hf, hz⟩
set_option maxRecDepth 100000 in
theorem vote_in {k : Nat} {cs : List Value} {y : DataW H × List MemPlace} (hl : cs.length = 14) (h : DataW.trod enc Try.prog W 0 (fun _ => true) true k 36 cs = some y) (hw : ∀ n ∈ y.1.weights Try.prog 36, n ≤ 140737488355328) :
    ∃ (v : Vo) (p : Option Addr) (cp : Nat), cs = vcell v (.slice p v.nodes.length cp) ∧ Fl W (· < W.heap.size) p (v.nodes.map encI) ∧ v.nodes.length * 8 ≤ 140737488355328 ∧ (-9223372036854775808 ≤ v.slot ∧ v.slot ≤ 9223372036854775807) := by
  obtain ⟨xs, k', hk, hxy, _, hxl, hfd⟩ := DataW.trod_struct Try.underlying36 h
  match cs, hl with
  | v0 :: v1 :: cs, hl =>
    match xs, hxl with
    | [y0, y1, y2], _ =>
      have g0 := hfd 0 _ rfl
      have g1 := hfd 1 _ rfl
      have g2 := hfd 2 _ rfl
      have hcl : cs.length = 12 := by simpa using hl
      simp [cellsI, cellsC] at g0 g1 g2
      rw [List.take_of_length_le (by omega)] at g2
      have hd := (Prod.mk.inj hxy).1
      obtain ⟨c, p, cp, zs, e, hf, hz⟩ := cmd_in hcl g2 (fun n hn => hw n (by
        rw [hd]
        simp only [DataW.weights, Try.underlying36]
        exact DataW.weights_mem_each (j := 2) (t := 34) rfl rfl n hn))
      obtain ⟨z0, e0, _, wf0⟩ := DataW.trod_int Try.underlying3 g0
      obtain ⟨z1, e1, _, _⟩ := DataW.trod_int Try.underlying3 g1
      simp only [List.cons.injEq, and_true] at e0 e1
      subst e0 e1
      exact ⟨⟨z0, z1, c, zs⟩, p, cp, by rw [e], hf, hz, wf_range wf0⟩
theorem votes_in {v : Value} {k : Nat} {y : DataW H × List MemPlace} (h : DataW.trod enc Try.prog W 0 (fun _ => true) true k 22 [v] = some y) (hw : ∀ n ∈ y.1.weights Try.prog 22, n ≤ 140737488355328) :
    ∃ (p : Option Addr) (c : Nat) (l : List (Vo × Value)), v = .slice p l.length c ∧ Fl W (· < W.heap.size) p (vflat l) ∧ Vn W (· < W.heap.size) l ∧ l.length * 136 ≤ 140737488355328 ∧ ∀ x ∈ l, -9223372036854775808 ≤ x.1.slot ∧ x.1.slot ≤ 9223372036854775807 := by
  rcases open_slice Try.underlying22 h with ⟨hcs, _⟩ | ⟨x, len, cap, m, n, D, Pl, hcs, _, hl, hm, hmm, hx, hel⟩
  · have hv : v = .slice none 0 0 := by simpa using hcs
    exact ⟨none, 0, [], hv, fun j u hu => by simp [vflat] at hu, fun x hx => (by cases hx), by simp, fun x hx => (by cases hx)⟩
  · have hv : v = .slice (some x) len cap := by simpa using hcs
    have hmc : m = cap := by simpa using hmm
    have hd := (Prod.mk.inj hx).1
    have hwD : ∀ i, i < len → ∀ n ∈ (D i).weights Try.prog 36, n ≤ 140737488355328 := fun i hi n hn => hw n (by
      rw [hd]
      simp only [DataW.weights, Try.underlying22, List.mem_cons, List.mem_append]
      exact Or.inr (Or.inl (w_in (List.mem_map.2 ⟨i, List.mem_range.2 hi, rfl⟩) n hn)))
    have hwl : len * 136 ≤ 140737488355328 := by
      have := hw ((len + (m - len)) * Try.prog.bytesOf 36) (by rw [hd]; simp [DataW.weights, Try.underlying22])
      rw [bytesVo] at this
      omega
    rw [cellsVo] at hel
    obtain ⟨b, off, spot⟩ := x
    by_cases h0 : len = 0
    · subst h0
      exact ⟨some ⟨b, off, spot⟩, cap, [], hv, fun j u hu => by simp [vflat] at hu, fun x hx => (by cases hx), by simp, fun x hx => (by cases hx)⟩
    have hspot : spot = none := by
      obtain ⟨cs', h1, _⟩ := hel 0 (by omega)
      obtain ⟨_, hlen, hcell⟩ := World.cells?_some h1
      have h00 := hcell 0 (by omega)
      rw [List.getElem?_eq_getElem (by omega)] at h00
      have := World.cell?_spot h00
      simpa [Addr.add] using this
    subst hspot
    have all : ∀ k, k ≤ len → ∃ l : List (Vo × Value), l.length = k ∧ Fl W (· < W.heap.size) (some ⟨b, off, none⟩) (vflat l) ∧ Vn W (· < W.heap.size) l ∧ ∀ x ∈ l, -9223372036854775808 ≤ x.1.slot ∧ x.1.slot ≤ 9223372036854775807 := fun k => by
      induction k with
      | zero => exact fun _ => ⟨[], rfl, fun j u hu => by simp [vflat] at hu, fun x hx => (by cases hx), fun x hx => (by cases hx)⟩
      | succ k ih =>
        intro hk
        obtain ⟨l, hll, hf, hv, hS⟩ := ih (by omega)
        obtain ⟨cs', h1, h2⟩ := hel k (by omega)
        obtain ⟨_, hlen, hcell⟩ := World.cells?_some h1
        obtain ⟨vo, p, cp, rfl, hfn, hnn, hsl⟩ := vote_in hlen h2 (hwD k (by omega))
        refine ⟨l ++ [(vo, .slice p vo.nodes.length cp)], by rw [List.length_append, hll]; rfl, fun j u hu => ?_, fun x hx => ?_, fun x hx => ?_⟩
        · rw [vflat_append] at hu
          by_cases hj : j < k * 14
          · rw [List.getElem?_append_left (by rw [vflat_len, hll]; exact hj)] at hu
            exact hf j u hu
          · rw [List.getElem?_append_right (by rw [vflat_len, hll]; omega), vflat_len, hll] at hu
            have hu' : (vcell vo (.slice p vo.nodes.length cp))[j - k * 14]? = some u := by
              have e : vflat [(vo, .slice p vo.nodes.length cp)] = vcell vo (.slice p vo.nodes.length cp) := by show vcell _ _ ++ [] = _; rw [List.append_nil]
              rw [e] at hu
              exact hu
            have hjl : j - k * 14 < 14 := (List.getElem?_eq_some_iff.1 hu').1
            have hc := hcell (j - k * 14) hjl
            rw [hu'] at hc
            rw [Addr.add_mid, Addr.add_mid, show off + k * 14 + (j - k * 14) = off + j by omega] at hc
            exact ⟨b, off, rfl, World.block_lt_of_cell? W _ hc, hc⟩
        · rcases List.mem_append.1 hx with hx | hx
          · exact hv x hx
          · rw [List.mem_singleton] at hx
            subst hx
            exact ⟨p, cp, rfl, hfn, hnn⟩
        · rcases List.mem_append.1 hx with hx | hx
          · exact hS x hx
          · rw [List.mem_singleton] at hx
            subst hx
            exact hsl
    obtain ⟨l, hll, hf, hvn, hS⟩ := all len (Nat.le_refl _)
    exact ⟨some ⟨b, off, none⟩, cap, l, by rw [hll]; exact hv, hf, hvn, by rw [hll]; exact hwl, hS⟩
theorem cmd_of_trod {cs : Array Value} {d : DataW H} {p : List MemPlace} (hs : cs.size = 12) (h : DataW.Trod enc Try.prog W 0 (fun _ => true) true 34 (.agg cs) d p) (hw : ∀ n ∈ d.weights Try.prog 34, n ≤ 140737488355328) : CmdIn W cs := by
  obtain ⟨k, hk⟩ := h
  obtain ⟨c, p, cp, zs, e, hf, hz⟩ := cmd_in (cs := cs.toList) (by simpa using hs) (by simpa [Value.cells] using hk) hw
  exact ⟨c, zs, .slice p zs.length cp, Array.toList_inj.1 e, p, cp, rfl, hf, hz⟩
theorem votes_of_trod {a : Option Addr} {len cap : Nat} {d : DataW H} {p : List MemPlace} (h : DataW.Trod enc Try.prog W 0 (fun _ => true) true 22 (.slice a len cap) d p) (hw : ∀ n ∈ d.weights Try.prog 22, n ≤ 140737488355328) : VotesIn W (.slice a len cap) len := by
  obtain ⟨k, hk⟩ := h
  obtain ⟨q, c, l, e, h1, h2, h3, h4⟩ := votes_in (v := .slice a len cap) (by simpa [Value.cells] using hk) hw
  injection e with e1 e2 e3
  subst e1 e2 e3
  exact ⟨a, cap, l, rfl, rfl, h1, h2, h3, h4⟩
end

end Go.Proofs.Ytjbgpbafgpdciaa
