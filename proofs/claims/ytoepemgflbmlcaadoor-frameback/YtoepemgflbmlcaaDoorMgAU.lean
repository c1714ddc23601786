/- Texts of this proof, joined: Ft, Op. -/
import Derived.Test.YtoepemgflbmlcaaDoorMgAA
import Derived.ShutString
import Derived.ChangeOld
import Derived.Below
import Derived.SizedLaws
import Derived.Test.YtoepemgflbmlcaaDoorRows
import Derived.ProofKit
import Derived.OpenShut
import Derived.Test.YtoepemgflbmlcaaDoorMgAT
import Derived.Deep.Slices
import Derived.HandedShaped
/- What the rows' frames share: how bytes come in, as lists that the walks take. -/
namespace Go.Proofs.YtoepemgflbmlcaaDoor
open Go.ChangeShapes Go.WideShapes Go.ChangeAt Go.RowKit

theorem laidOut : laidOutB Tryd.prog = true := by kernel_rfl

theorem sized_bytes {H : Type} {ts : List TypeId} {ds : List (DataW H)} {j : Nat} {elems spare : List (DataW H)} (h : (DataW.weightsEach Tryd.prog ts ds).all (· ≤ reachBytes) = true) (ht : ts[j]? = some 28) (hd : ds[j]? = some (.slice elems spare)) :
    elems.length + spare.length ≤ 140737488355328 := by
  have hr : reachBytes ≤ 140737488355328 := by have := reachBytes_lt; omega
  have b2 : Tryd.prog.bytesOf 5 = 1 := by kernel_rfl
  have := sized_slice h ht hd Tryd.underlying28
  rw [b2] at this; omega

theorem rb_of_trod {H : Type} {enc : TypeId × Value → H} {W : World} {a : Option Addr} {len cap : Nat} {d : DataW H} {p : List MemPlace}
    (h : DataW.Trod enc Tryd.prog W 0 (fun _ => true) true 28 (.slice a len cap) d p)
    (hw : ∀ elems spare, d = .slice elems spare → elems.length + spare.length ≤ 140737488355328) : ∃ xs, Rb W a len xs ∧ len ≤ cap ∧ Hid (len ≤ 140737488355328) := by
  obtain ⟨fuel, hf⟩ := h
  rcases open_ints Tryd.underlying28 Tryd.underlying5 (by kernel_rfl) hf with ⟨hcs, _⟩ | ⟨x, l, c, zs, hcs, hxx, hl, hm, hz, hDx, hcell, hwz⟩
  · simp [Value.cells] at hcs
    obtain ⟨rfl, rfl, rfl⟩ := hcs
    exact ⟨[], Rb.nil _ _, Nat.le_refl _, Nat.zero_le _⟩
  · simp [Value.cells] at hcs
    obtain ⟨rfl, rfl, rfl⟩ := hcs
    have hz' : zs.length = cap := by simpa using hz
    have hd := (Prod.mk.inj hDx).1
    have hlen := hw _ _ hd
    simp only [lits, List.length_map, List.length_take, List.length_drop] at hlen
    refine ⟨(zs.take len).map Int.toNat, ⟨by rw [List.length_map, List.length_take]; omega, fun y hy => ?_, fun j hj => ?_⟩, hl, by show len ≤ _; omega⟩
    · obtain ⟨z, hzm, rfl⟩ := List.mem_map.1 hy
      have := bounds_u8 (hwz z (List.mem_of_mem_take hzm))
      omega
    · obtain ⟨b, off, spot⟩ := x
      have hc := hcell j (by omega)
      have hspot : spot = none := by
        have := World.cell?_spot (hcell 0 (by omega))
        simpa [Addr.add] using this
      subst hspot
      refine ⟨b, off, rfl, ?_⟩
      rw [show (⟨b, off, none⟩ : Addr).add j = ⟨b, off + j, none⟩ from by by_cases e : j = 0 <;> simp [Addr.add, e]] at hc
      rw [hc]
      have hj' : j < zs.length := by omega
      have e : zs.getD j 0 = zs[j] := by rw [List.getD_eq_getElem?_getD, List.getElem?_eq_getElem hj']; rfl
      have := bounds_u8 (hwz zs[j] (List.getElem_mem hj'))
      have e2 : ((zs.take len).map Int.toNat).getD j 0 = zs[j].toNat := by
        rw [List.getD_eq_getElem?_getD, List.getElem?_map, List.getElem?_take_of_lt (by omega), List.getElem?_eq_getElem hj']; rfl
      rw [e, e2, Int.toNat_of_nonneg this.1]
end Go.Proofs.YtoepemgflbmlcaaDoor

/- How commands, messages and bytes come in, with their sizes (laid by scripts/mkop.py out of Qi.t). -/
namespace Go.Proofs.YtoepemgflbmlcaaDoor
set_option linter.unusedVariables false
open Go.ChangeShapes Go.WideShapes Go.ChangeAt Go.RowKit Go.Deep

theorem cellsI : Tryd.prog.cellsOf 3 = 1 := by kernel_rfl
theorem cellsB : Tryd.prog.cellsOf 4 = 1 := by kernel_rfl
theorem cellsS : Tryd.prog.cellsOf 9 = 1 := by kernel_rfl
theorem cellsU : Tryd.prog.cellsOf 22 = 1 := by kernel_rfl
theorem cellsN : Tryd.prog.cellsOf 25 = 1 := by kernel_rfl
theorem cellsV : Tryd.prog.cellsOf 38 = 1 := by kernel_rfl
theorem cellsY : Tryd.prog.cellsOf 28 = 1 := by kernel_rfl
theorem cellsC : Tryd.prog.cellsOf 27 = 12 := by kernel_rfl
theorem cellsK : Tryd.prog.cellsOf 24 = 2 := by kernel_rfl
theorem wf_u32 {z : Int} (h : (Lit.int .u32 z).wf = true) : 0 ≤ z ∧ z < 4294967296 := by
  have h' : (decide (IntKind.u32.min ≤ z) && decide (z ≤ IntKind.u32.max)) = true := h
  rw [Bool.and_eq_true] at h'
  have h1 : (0 : Int) ≤ z := of_decide_eq_true h'.1
  have h2 : z ≤ 4294967295 := of_decide_eq_true h'.2
  exact ⟨h1, by omega⟩
/-- a command whose sum is one, and whose key is as long as may be -/
def goodC (c : Cs0) : Prop := 0 ≤ c.sum ∧ c.sum < 4294967296 ∧ c.key.size ≤ 9223372036854775807
/-- .. of a message -/
def goodM (μ : Ms) : Prop := goodC μ.s.c ∧ ∀ v ∈ μ.votes, goodC v.c
theorem w_in {H : Type} {P : Program} {e : TypeId} {d : DataW H} : ∀ {l : List (DataW H)}, d ∈ l → ∀ n, n ∈ d.weights P e → n ∈ DataW.weightsAll P e l
  | [], h, _, _ => by cases h
  | x :: r, h, n, hn => by
    simp only [DataW.weightsAll, List.mem_append]
    rcases List.mem_cons.1 h with e | h
    · rw [← e]; exact Or.inl hn
    · exact Or.inr (w_in h n hn)
theorem w_all {H : Type} {ts : List TypeId} {ds : List (DataW H)} {j : Nat} {d : DataW H} {t : TypeId} (h : (DataW.weightsEach Tryd.prog ts ds).all (· ≤ reachBytes) = true) (ht : ts[j]? = some t) (hd : ds[j]? = some d) : ∀ n ∈ d.weights Tryd.prog t, n ≤ 140737488355328 := fun n hn => by
  have hr : reachBytes ≤ 140737488355328 := by have := reachBytes_lt; omega
  have h3 := of_decide_eq_true (List.all_eq_true.1 h _ (DataW.weights_mem_each ht hd n hn))
  omega
theorem cellsVo : Tryd.prog.cellsOf 72 = 14 := by kernel_rfl
theorem bytesVo : Tryd.prog.bytesOf 72 = 136 := by kernel_rfl
theorem bytesI : Tryd.prog.bytesOf 3 = 8 := by kernel_rfl
theorem bytesU : Tryd.prog.bytesOf 5 = 1 := by kernel_rfl
section
variable {H : Type} {enc : TypeId × Value → H} {W : World}
theorem fl_bytes {v : Value} {k : Nat} {y : DataW H × List MemPlace} (h : DataW.trod enc Tryd.prog W 0 (fun _ => true) true k 28 [v] = some y) (hw : ∀ n ∈ y.1.weights Tryd.prog 28, n ≤ 140737488355328) :
    ∃ p c xs, v = .slice p xs.length c ∧ Fl W (· < W.heap.size) p (vl xs) ∧ (∀ x ∈ xs, x < 256) ∧ xs.length ≤ 140737488355328 := by
  have hw' : ∀ elems spare, y.1 = .slice elems spare → elems.length + spare.length ≤ 140737488355328 := fun elems spare he => by
    have := hw ((elems.length + spare.length) * Tryd.prog.bytesOf 5) (by rw [he]; simp [DataW.weights, Tryd.underlying28])
    rw [bytesU] at this
    omega
  rcases open_ints Tryd.underlying28 Tryd.underlying5 (by kernel_rfl) h with ⟨hcs, _⟩ | ⟨x, l, c, zs, hcs, _⟩
  · have hv : v = .slice none 0 0 := by simpa using hcs
    exact ⟨none, 0, [], hv, fun j u hu => by simp [vl] at hu, fun x hx => (by cases hx), Nat.zero_le _⟩
  · have hv : v = .slice (some x) l c := by simpa using hcs
    subst hv
    obtain ⟨xs, r, _, hs⟩ := rb_of_trod (d := y.1) (p := y.2) ⟨k, h⟩ hw'
    have := r.len
    subst this
    refine ⟨some x, c, xs, rfl, fun j u hu => ?_, r.byte, hs.out⟩
    have hj : j < xs.length := by have := (List.getElem?_eq_some_iff.1 hu).1; simpa [vl] using this
    obtain ⟨b, o, e, hc⟩ := r.cell j hj
    rw [vl_get hj] at hu
    injection hu with hu
    subst hu
    exact ⟨b, o, e, World.block_lt_of_cell? W _ hc, hc⟩
theorem fl_ints {v : Value} {k : Nat} {y : DataW H × List MemPlace} (h : DataW.trod enc Tryd.prog W 0 (fun _ => true) true k 25 [v] = some y) (hw : ∀ n ∈ y.1.weights Tryd.prog 25, n ≤ 140737488355328) :
    ∃ p c zs, v = .slice p zs.length c ∧ Fl W (· < W.heap.size) p (List.map encI zs) ∧ zs.length * 8 ≤ 140737488355328 := by
  have hw' : ∀ elems spare, y.1 = .slice elems spare → (elems.length + spare.length) * 8 ≤ 140737488355328 := fun elems spare he => by
    have := hw ((elems.length + spare.length) * Tryd.prog.bytesOf 3) (by rw [he]; simp [DataW.weights, Tryd.underlying25])
    rw [bytesI] at this
    exact this
  rcases open_ints Tryd.underlying25 Tryd.underlying3 (by kernel_rfl) h with ⟨hcs, _⟩ | ⟨x, l, c, zs, hcs, hxx, hl, hm, hz, hDx, hcell, hwz⟩
  · have hv : v = .slice none 0 0 := by simpa using hcs
    exact ⟨none, 0, [], hv, fun j u hu => by simp at hu, by simp⟩
  · have hv : v = .slice (some x) l c := by simpa using hcs
    have hz' : zs.length = c := by simpa using hz
    have hlen := hw' _ _ (by rw [hDx])
    simp only [lits, List.length_map, List.length_take, List.length_drop] at hlen
    have hll : (zs.take l).length = l := by rw [List.length_take]; omega
    refine ⟨some x, c, zs.take l, by rw [hll]; exact hv, fun j u hu => ?_, by rw [hll]; omega⟩
    have hj : j < l := by have := (List.getElem?_eq_some_iff.1 hu).1; rw [List.length_map, hll] at this; exact this
    obtain ⟨b, off, spot⟩ := x
    have hc := hcell j (by omega)
    have hspot : spot = none := by
      have := World.cell?_spot (hcell 0 (by omega))
      simpa [Addr.add] using this
    subst hspot
    rw [show (⟨b, off, none⟩ : Addr).add j = ⟨b, off + j, none⟩ from by by_cases e : j = 0 <;> simp [Addr.add, e]] at hc
    rw [List.getElem?_map, List.getElem?_take_of_lt hj, List.getElem?_eq_getElem (by omega)] at hu
    injection hu with hu
    subst hu
    rw [List.getD_eq_getElem?_getD, List.getElem?_eq_getElem (by omega)] at hc
    exact ⟨b, off, rfl, World.block_lt_of_cell? W _ hc, hc⟩
theorem two_code {k : Nat} {a b : Value} {y : DataW H × List MemPlace} (h : DataW.trod enc Tryd.prog W 0 (fun _ => true) true k 24 [a, b] = some y) : ∃ k m : Int, a = .int .i64 k ∧ b = .int .i64 m := by
  obtain ⟨xs, k', hk, hxy, _, hxl, hfd⟩ := DataW.trod_struct Tryd.underlying24 h
  match xs, hxl with
  | [y0, y1], _ =>
    have g0 := hfd 0 _ rfl
    have g1 := hfd 1 _ rfl
    simp [cellsI] at g0 g1
    obtain ⟨z0, e0, _, _⟩ := DataW.trod_int Tryd.underlying3 g0
    obtain ⟨z1, e1, _, _⟩ := DataW.trod_int Tryd.underlying3 g1
    simp only [List.cons.injEq, and_true] at e0 e1
    exact ⟨z0, z1, e0, e1⟩
set_option maxRecDepth 100000 in
theorem cmd_in {k : Nat} {cs : List Value} {y : DataW H × List MemPlace} (hl : cs.length = 12) (h : DataW.trod enc Tryd.prog W 0 (fun _ => true) true k 27 cs = some y) (hw : ∀ n ∈ y.1.weights Tryd.prog 27, n ≤ 140737488355328) :
    ∃ (c : Cs0) (p : Option Addr) (cp : Nat) (zs : List Int), cs = (cmdA c (.slice p zs.length cp)).toList ∧ Fl W (· < W.heap.size) p (List.map encI zs) ∧ zs.length * 8 ≤ 140737488355328 ∧ goodC c := by
  obtain ⟨xs, k', hk, hxy, _, hxl, hfd⟩ := DataW.trod_struct Tryd.underlying27 h
  match cs, hl with
  | [v0, v1, v2, v3, v4, v5, v6, v7, v8, v9, v10, v11], _ =>
    match xs, hxl with
    | [y0, y1, y2, y3, y4, y5, y6, y7, y8, y9, y10], _ =>
      have g0 := hfd 0 _ rfl
      have g1 := hfd 1 _ rfl
      have g2 := hfd 2 _ rfl
      have g3 := hfd 3 _ rfl
      have g4 := hfd 4 _ rfl
      have g5 := hfd 5 _ rfl
      have g6 := hfd 6 _ rfl
      have g7 := hfd 7 _ rfl
      have g8 := hfd 8 _ rfl
      have g9 := hfd 9 _ rfl
      have g10 := hfd 10 _ rfl
      simp [cellsI, cellsS, cellsU, cellsK, cellsN] at g0 g1 g2 g3 g4 g5 g6 g7 g8 g9 g10
      have hd := (Prod.mk.inj hxy).1
      obtain ⟨p, cp, zs, e11, hf, hz⟩ := fl_ints g10 (fun n hn => hw n (by
        rw [hd]
        simp only [DataW.weights, Tryd.underlying27]
        exact DataW.weights_mem_each (j := 10) (t := 25) rfl rfl n hn))
      obtain ⟨s2, e2, _, ms2⟩ := DataW.trod_string Tryd.underlying9 g2
      obtain ⟨z9, z10, e9, e10⟩ := two_code g9
      obtain ⟨z0, e0, _, _⟩ := DataW.trod_int Tryd.underlying3 g0
      obtain ⟨z1, e1, _, _⟩ := DataW.trod_int Tryd.underlying3 g1
      obtain ⟨z3, e3, _, _⟩ := DataW.trod_int Tryd.underlying3 g3
      obtain ⟨z4, e4, _, _⟩ := DataW.trod_int Tryd.underlying3 g4
      obtain ⟨z5, e5, _, _⟩ := DataW.trod_int Tryd.underlying3 g5
      obtain ⟨z6, e6, _, _⟩ := DataW.trod_int Tryd.underlying3 g6
      obtain ⟨z7, e7, _, _⟩ := DataW.trod_int Tryd.underlying3 g7
      obtain ⟨z8, e8, _, ws8⟩ := DataW.trod_int Tryd.underlying22 g8
      simp only [List.cons.injEq, and_true] at e0 e1 e2 e3 e4 e5 e6 e7 e8
      subst e0 e1 e2 e3 e4 e5 e6 e7 e8 e9 e10 e11
      exact ⟨⟨z0, z1, s2, z3, z4, z5, z6, z7, z8, z9, z10⟩, p, cp, zs, rfl, hf, hz, (wf_u32 ws8).1, (wf_u32 ws8).2, by unfold maxLen at ms2; exact ms2⟩
set_option maxRecDepth 100000 in
theorem vote_in {k : Nat} {cs : List Value} {y : DataW H × List MemPlace} (hl : cs.length = 14) (h : DataW.trod enc Tryd.prog W 0 (fun _ => true) true k 72 cs = some y) (hw : ∀ n ∈ y.1.weights Tryd.prog 72, n ≤ 140737488355328) :
    ∃ (v : Vo) (p : Option Addr) (cp : Nat), cs = vcell v (.slice p v.nodes.length cp) ∧ Fl W (· < W.heap.size) p (v.nodes.map encI) ∧ v.nodes.length * 8 ≤ 140737488355328 ∧ goodC v.c := by
  obtain ⟨xs, k', hk, hxy, _, hxl, hfd⟩ := DataW.trod_struct Tryd.underlying72 h
  match cs, hl with
  | v0 :: v1 :: cs, hl =>
    match xs, hxl with
    | [y0, y1, y2], _ =>
      have g0 := hfd 0 _ rfl
      have g1 := hfd 1 _ rfl
      have g2 := hfd 2 _ rfl
      have hcl : cs.length = 12 := by simpa using hl
      simp [cellsI, cellsC] at g0 g1 g2
      rw [List.take_of_length_le (by omega)] at g2
      have hd := (Prod.mk.inj hxy).1
      obtain ⟨c, p, cp, zs, e, hf, hz, hgc⟩ := cmd_in hcl g2 (fun n hn => hw n (by
        rw [hd]
        simp only [DataW.weights, Tryd.underlying72]
        exact DataW.weights_mem_each (j := 2) (t := 27) rfl rfl n hn))
      obtain ⟨z0, e0, _, _⟩ := DataW.trod_int Tryd.underlying3 g0
      obtain ⟨z1, e1, _, _⟩ := DataW.trod_int Tryd.underlying3 g1
      simp only [List.cons.injEq, and_true] at e0 e1
      subst e0 e1
      exact ⟨⟨z0, z1, c, zs⟩, p, cp, by rw [e], hf, hz, hgc⟩
theorem votes_in {v : Value} {k : Nat} {y : DataW H × List MemPlace} (h : DataW.trod enc Tryd.prog W 0 (fun _ => true) true k 38 [v] = some y) (hw : ∀ n ∈ y.1.weights Tryd.prog 38, n ≤ 140737488355328) :
    ∃ (p : Option Addr) (c : Nat) (l : List (Vo × Value)), v = .slice p l.length c ∧ Fl W (· < W.heap.size) p (vflat l) ∧ Vn W (· < W.heap.size) l ∧ l.length * 136 ≤ 140737488355328 ∧ ∀ x ∈ l, goodC x.1.c := by
  rcases open_slice Tryd.underlying38 h with ⟨hcs, _⟩ | ⟨x, len, cap, m, n, D, Pl, hcs, _, hl, hm, hmm, hx, hel⟩
  · have hv : v = .slice none 0 0 := by simpa using hcs
    exact ⟨none, 0, [], hv, fun j u hu => by simp [vflat] at hu, fun x hx => (by cases hx), by simp, fun x hx => (by cases hx)⟩
  · have hv : v = .slice (some x) len cap := by simpa using hcs
    have hmc : m = cap := by simpa using hmm
    have hd := (Prod.mk.inj hx).1
    have hwD : ∀ i, i < len → ∀ n ∈ (D i).weights Tryd.prog 72, n ≤ 140737488355328 := fun i hi n hn => hw n (by
      rw [hd]
      simp only [DataW.weights, Tryd.underlying38, List.mem_cons, List.mem_append]
      exact Or.inr (Or.inl (w_in (List.mem_map.2 ⟨i, List.mem_range.2 hi, rfl⟩) n hn)))
    have hwl : len * 136 ≤ 140737488355328 := by
      have := hw ((len + (m - len)) * Tryd.prog.bytesOf 72) (by rw [hd]; simp [DataW.weights, Tryd.underlying38])
      rw [bytesVo] at this
      omega
    rw [cellsVo] at hel
    obtain ⟨b, off, spot⟩ := x
    by_cases h0 : len = 0
    · subst h0
      exact ⟨some ⟨b, off, spot⟩, cap, [], hv, fun j u hu => by simp [vflat] at hu, fun x hx => (by cases hx), by simp, fun x hx => (by cases hx)⟩
    have hspot : spot = none := by
      obtain ⟨cs', h1, _⟩ := hel 0 (by omega)
      obtain ⟨_, hlen, hcell⟩ := World.cells?_some h1
      have h00 := hcell 0 (by omega)
      rw [List.getElem?_eq_getElem (by omega)] at h00
      have := World.cell?_spot h00
      simpa [Addr.add] using this
    subst hspot
    have all : ∀ k, k ≤ len → ∃ l : List (Vo × Value), l.length = k ∧ Fl W (· < W.heap.size) (some ⟨b, off, none⟩) (vflat l) ∧ Vn W (· < W.heap.size) l ∧ ∀ x ∈ l, goodC x.1.c := fun k => by
      induction k with
      | zero => exact fun _ => ⟨[], rfl, fun j u hu => by simp [vflat] at hu, fun x hx => (by cases hx), fun x hx => (by cases hx)⟩
      | succ k ih =>
        intro hk
        obtain ⟨l, hll, hf, hv, hgl⟩ := ih (by omega)
        obtain ⟨cs', h1, h2⟩ := hel k (by omega)
        obtain ⟨_, hlen, hcell⟩ := World.cells?_some h1
        obtain ⟨vo, p, cp, rfl, hfn, hnn, hgv⟩ := vote_in hlen h2 (hwD k (by omega))
        refine ⟨l ++ [(vo, .slice p vo.nodes.length cp)], by rw [List.length_append, hll]; rfl, fun j u hu => ?_, fun x hx => ?_, fun x hx => ?_⟩
        · rw [vflat_append] at hu
          by_cases hj : j < k * 14
          · rw [List.getElem?_append_left (by rw [vflat_len, hll]; exact hj)] at hu
            exact hf j u hu
          · rw [List.getElem?_append_right (by rw [vflat_len, hll]; omega), vflat_len, hll] at hu
            have hu' : (vcell vo (.slice p vo.nodes.length cp))[j - k * 14]? = some u := by
              have e : vflat [(vo, .slice p vo.nodes.length cp)] = vcell vo (.slice p vo.nodes.length cp) := by show vcell _ _ ++ [] = _; rw [List.append_nil]
              rw [e] at hu
              exact hu
            have hjl : j - k * 14 < 14 := (List.getElem?_eq_some_iff.1 hu').1
            have hc := hcell (j - k * 14) hjl
            rw [hu'] at hc
            rw [Addr.add_mid, Addr.add_mid, show off + k * 14 + (j - k * 14) = off + j by omega] at hc
            exact ⟨b, off, rfl, World.block_lt_of_cell? W _ hc, hc⟩
        · rcases List.mem_append.1 hx with hx | hx
          · exact hv x hx
          · rw [List.mem_singleton] at hx
            subst hx
            exact ⟨p, cp, rfl, hfn, hnn⟩
        · rcases List.mem_append.1 hx with hx | hx
          · exact hgl x hx
          · rw [List.mem_singleton] at hx
            subst hx
            exact hgv
    obtain ⟨l, hll, hf, hvn, hgl⟩ := all len (Nat.le_refl _)
    exact ⟨some ⟨b, off, none⟩, cap, l, by rw [hll]; exact hv, hf, hvn, by rw [hll]; exact hwl, hgl⟩
set_option maxRecDepth 100000 in
theorem msg_in {k : Nat} {cs : List Value} {y : DataW H × List MemPlace} (hl : cs.length = 24) (h : DataW.trod enc Tryd.prog W 0 (fun _ => true) true k 40 cs = some y) (hw : ∀ n ∈ y.1.weights Tryd.prog 40, n ≤ 140737488355328) :
    ∃ μ : Ms, Mr W (· < W.heap.size) μ (.agg cs.toArray) ∧ goodM μ := by
  obtain ⟨xs, k', hk, hxy, _, hxl, hfd⟩ := DataW.trod_struct Tryd.underlying40 h
  obtain ⟨v0, v1, v2, v3, v4, v5, v6, v7, v8, v9, r, rfl⟩ : ∃ v0 v1 v2 v3 v4 v5 v6 v7 v8 v9 r, cs = v0 :: v1 :: v2 :: v3 :: v4 :: v5 :: v6 :: v7 :: v8 :: v9 :: r := by
    match cs, hl with
    | v0 :: v1 :: v2 :: v3 :: v4 :: v5 :: v6 :: v7 :: v8 :: v9 :: r, _ => exact ⟨v0, v1, v2, v3, v4, v5, v6, v7, v8, v9, r, rfl⟩
  have hrl : r.length = 14 := by simpa using hl
  obtain ⟨cc, v22, v23, rfl, hcc⟩ : ∃ cc v22 v23, r = cc ++ [v22, v23] ∧ cc.length = 12 := by
    refine ⟨r.take 12, r[12], r[13], ?_, by rw [List.length_take]; omega⟩
    have : r.drop 12 = [r[12], r[13]] := by
      rw [List.drop_eq_getElem_cons (by omega), List.drop_eq_getElem_cons (by omega), List.drop_of_length_le (by omega)]
    rw [← this, List.take_append_drop]
  match xs, hxl with
  | [y0, y1, y2, y3, y4, y5, y6, y7, y8, y9, y10, y11, y12], _ =>
    have hd := (Prod.mk.inj hxy).1
    have hwF : ∀ (j : Nat) (t : TypeId) (y' : DataW H), [3, 3, 3, 3, 3, 3, 3, 3, 3, 4, 27, 38, 28][j]? = some t → [y0.1, y1.1, y2.1, y3.1, y4.1, y5.1, y6.1, y7.1, y8.1, y9.1, y10.1, y11.1, y12.1][j]? = some y' → ∀ n ∈ y'.weights Tryd.prog t, n ≤ 140737488355328 := fun j t y' ht hy n hn => hw n (by
      rw [hd]
      simp only [DataW.weights, Tryd.underlying40]
      exact DataW.weights_mem_each (j := j) ht hy n hn)
    have g0 := hfd 0 _ rfl
    have g1 := hfd 1 _ rfl
    have g2 := hfd 2 _ rfl
    have g3 := hfd 3 _ rfl
    have g4 := hfd 4 _ rfl
    have g5 := hfd 5 _ rfl
    have g6 := hfd 6 _ rfl
    have g7 := hfd 7 _ rfl
    have g8 := hfd 8 _ rfl
    have g9 := hfd 9 _ rfl
    have g10 := hfd 10 _ rfl
    have g11 := hfd 11 _ rfl
    have g12 := hfd 12 _ rfl
    simp [cellsI, cellsB] at g0 g1 g2 g3 g4 g5 g6 g7 g8 g9
    have e10 : List.take (Tryd.prog.cellsOf 27) (List.drop 10 (v0 :: v1 :: v2 :: v3 :: v4 :: v5 :: v6 :: v7 :: v8 :: v9 :: (cc ++ [v22, v23]))) = cc := by
      rw [cellsC]; show List.take 12 (cc ++ [v22, v23]) = cc; rw [List.take_append_of_le_length (by omega), List.take_of_length_le (by omega)]
    have e11 : List.take (Tryd.prog.cellsOf 38) (List.drop 22 (v0 :: v1 :: v2 :: v3 :: v4 :: v5 :: v6 :: v7 :: v8 :: v9 :: (cc ++ [v22, v23]))) = [v22] := by
      rw [cellsV]; show List.take 1 (List.drop 12 (cc ++ [v22, v23])) = [v22]; rw [List.drop_append_of_le_length (by omega), List.drop_of_length_le (by omega)]; rfl
    have e12 : List.take (Tryd.prog.cellsOf 28) (List.drop 23 (v0 :: v1 :: v2 :: v3 :: v4 :: v5 :: v6 :: v7 :: v8 :: v9 :: (cc ++ [v22, v23]))) = [v23] := by
      rw [cellsY]; show List.take 1 (List.drop 13 (cc ++ [v22, v23])) = [v23]; rw [List.drop_append, List.drop_of_length_le (by omega), hcc]; rfl
    have g10' : DataW.trod enc Tryd.prog W 0 (fun _ => true) true k' 27 cc = some y10 := by rw [← e10]; exact g10
    have g11' : DataW.trod enc Tryd.prog W 0 (fun _ => true) true k' 38 [v22] = some y11 := by rw [← e11]; exact g11
    have g12' : DataW.trod enc Tryd.prog W 0 (fun _ => true) true k' 28 [v23] = some y12 := by rw [← e12]; exact g12
    obtain ⟨c, p, cp, zs, ec, hf, hz, hgc⟩ := cmd_in hcc g10' (hwF 10 _ _ rfl rfl)
    obtain ⟨pv, cv, l, ev, hfv, hvn, hvl, hgl⟩ := votes_in g11' (hwF 11 _ _ rfl rfl)
    obtain ⟨pb, cb, xs', eb, hfb, hxb, hxn⟩ := fl_bytes g12' (hwF 12 _ _ rfl rfl)
    obtain ⟨b9, e9, _⟩ := DataW.trod_bool Tryd.underlying4 g9
    obtain ⟨z0, e0, _, _⟩ := DataW.trod_int Tryd.underlying3 g0
    obtain ⟨z1, e1, _, _⟩ := DataW.trod_int Tryd.underlying3 g1
    obtain ⟨z2, e2, _, _⟩ := DataW.trod_int Tryd.underlying3 g2
    obtain ⟨z3, e3, _, _⟩ := DataW.trod_int Tryd.underlying3 g3
    obtain ⟨z4, e4, _, _⟩ := DataW.trod_int Tryd.underlying3 g4
    obtain ⟨z5, e5, _, _⟩ := DataW.trod_int Tryd.underlying3 g5
    obtain ⟨z6, e6, _, _⟩ := DataW.trod_int Tryd.underlying3 g6
    obtain ⟨z7, e7, _, _⟩ := DataW.trod_int Tryd.underlying3 g7
    obtain ⟨z8, e8, _, _⟩ := DataW.trod_int Tryd.underlying3 g8
    simp only [List.cons.injEq, and_true] at e0 e1 e2 e3 e4 e5 e6 e7 e8 e9
    subst e0 e1 e2 e3 e4 e5 e6 e7 e8 e9 ev eb ec
    exact ⟨⟨⟨z0, z1, z2, z3, z4, z5, z6, z7, z8, b9, c⟩, zs, l.map (·.1), xs'⟩, ⟨p, cp, pv, cv, l, pb, cb, rfl, hf, hz, rfl, hfv, hvn, hvl, hfb, hxb, hxn⟩, hgc, fun v hv => by
      obtain ⟨x, hx, rfl⟩ := List.mem_map.1 hv
      exact hgl x hx⟩
/-- a message that is handed in -/
theorem msg_of_trod {cs : Array Value} {d : DataW H} {p : List MemPlace} (hs : cs.size = 24) (h : DataW.Trod enc Tryd.prog W 0 (fun _ => true) true 40 (.agg cs) d p) (hw : ∀ n ∈ d.weights Tryd.prog 40, n ≤ 140737488355328) : ∃ μ : Ms, Mr W (· < W.heap.size) μ (.agg cs) ∧ goodM μ := by
  obtain ⟨k, hk⟩ := h
  have := msg_in (cs := cs.toList) (by simpa using hs) (by simpa [Value.cells] using hk) hw
  simpa using this
/-- a command that is handed in -/
def CmdG (w : World) (cs : Array Value) : Prop := ∃ (c : Cs0) (p : Option Addr) (cp : Nat) (zs : List Int), cs = cmdA c (.slice p zs.length cp) ∧ Fl w (· < w.heap.size) p (zs.map encI) ∧ zs.length * 8 ≤ 140737488355328 ∧ goodC c
theorem cmd_of_trod {cs : Array Value} {d : DataW H} {p : List MemPlace} (hs : cs.size = 12) (h : DataW.Trod enc Tryd.prog W 0 (fun _ => true) true 27 (.agg cs) d p) (hw : ∀ n ∈ d.weights Tryd.prog 27, n ≤ 140737488355328) : CmdG W cs := by
  obtain ⟨k, hk⟩ := h
  obtain ⟨c, p, cp, zs, e, h1, h2, h3⟩ := cmd_in (cs := cs.toList) (by simpa using hs) (by simpa [Value.cells] using hk) hw
  exact ⟨c, p, cp, zs, by rw [← Array.toArray_toList (xs := cs), e], h1, h2, h3⟩
/-- bytes that are handed in, with the size of their room -/
theorem cap_of_trod {a : Option Addr} {len cap : Nat} {d : DataW H} {p : List MemPlace} (h : DataW.Trod enc Tryd.prog W 0 (fun _ => true) true 28 (.slice a len cap) d p)
    (hw : ∀ elems spare, d = .slice elems spare → elems.length + spare.length ≤ 140737488355328) : Hid (cap ≤ 140737488355328) := by
  obtain ⟨fuel, hf⟩ := h
  rcases open_ints Tryd.underlying28 Tryd.underlying5 (by kernel_rfl) hf with ⟨hcs, _⟩ | ⟨x, l, c, zs, hcs, hxx, hl, hm, hz, hDx, hcell, hwz⟩
  · simp [Value.cells] at hcs
    obtain ⟨rfl, rfl, rfl⟩ := hcs
    exact Nat.zero_le _
  · simp [Value.cells] at hcs
    obtain ⟨rfl, rfl, rfl⟩ := hcs
    have hz' : zs.length = cap := by simpa using hz
    have hd := (Prod.mk.inj hDx).1
    have hlen := hw _ _ hd
    simp only [lits, List.length_map, List.length_take, List.length_drop] at hlen
    show cap ≤ _
    omega
end
end Go.Proofs.YtoepemgflbmlcaaDoor
