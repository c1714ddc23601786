/- Texts of this proof, joined: Fy, Fg, Jrf. -/
import Derived.Test.YtmooddbhcccicaaGreatDoorMgBE
import Derived.Deep.Slices
import Derived.Test.YtmooddbhcccicaaGreatDoorMgAR
/- Texts, as lists of lists of bytes: how they lie; how they come in. -/
namespace Go.Proofs.YtmooddbhcccicaaGreatDoor
open Go.ChangeShapes Go.WideShapes Go.ChangeAt Go.RowKit Go.Deep

/-- The value v reads as the texts ls. -/
structure Tb (w : World) (v : Value) (ls : List (List Nat)) : Prop where
  form : ∃ (g : Option Addr) (gb go cap : Nat) (A : Nat → Option Addr) (C : Nat → Nat), v = .slice g ls.length cap ∧ ls.length ≤ cap ∧ (0 < ls.length → g = some ⟨gb, go, none⟩) ∧
    ∀ r, r < ls.length → w.cell? ⟨gb, go + r, none⟩ = some (.slice (A r) (ls.getD r []).length (C r)) ∧ Rb w (A r) (ls.getD r []).length (ls.getD r []) ∧ (ls.getD r []).length ≤ C r ∧ (ls.getD r []).length ≤ 140737488355328
  many : ls.length * 24 ≤ 140737488355328

theorem weights_in {H : Type} {P : Program} {e : TypeId} {d : DataW H} : ∀ {l : List (DataW H)}, d ∈ l → ∀ n, n ∈ d.weights P e → n ∈ DataW.weightsAll P e l
  | [], h, _, _ => by cases h
  | x :: r, h, n, hn => by
    simp only [DataW.weightsAll, List.mem_append]
    rcases List.mem_cons.1 h with e | h
    · rw [← e]; exact Or.inl hn
    · exact Or.inr (weights_in h n hn)
/-- what the rows' sizes say of a parameter that is texts -/
theorem sized_texts {H : Type} {ts : List TypeId} {ds : List (DataW H)} {j : Nat} {elems spare : List (DataW H)} (h : (DataW.weightsEach Tryz.prog ts ds).all (· ≤ reachBytes) = true) (ht : ts[j]? = some 22) (hd : ds[j]? = some (.slice elems spare)) :
    (elems.length + spare.length) * 24 ≤ 140737488355328 ∧ ∀ e' s', DataW.slice e' s' ∈ elems → e'.length + s'.length ≤ 140737488355328 := by
  have hr : reachBytes ≤ 140737488355328 := by have := reachBytes_lt; omega
  have b1 : Tryz.prog.bytesOf 34 = 24 := by kernel_rfl
  have b2 : Tryz.prog.bytesOf 5 = 1 := by kernel_rfl
  refine ⟨?_, fun e' s' hx => ?_⟩
  · have := sized_slice h ht hd Tryz.underlying22
    rw [b1] at this; omega
  · have h2 := List.all_eq_true.1 h _ (DataW.weights_mem_each ht hd ((e'.length + s'.length) * Tryz.prog.bytesOf 5) (by
      simp only [DataW.weights, Tryz.underlying22, List.mem_cons, List.mem_append]
      exact Or.inr (Or.inl (weights_in hx _ (by simp [DataW.weights, Tryz.underlying34])))))
    have h3 := of_decide_eq_true h2
    rw [b2] at h3; omega

theorem texts_of_trod {H : Type} {enc : TypeId × Value → H} {W : World} {a : Option Addr} {len cap : Nat} {d : DataW H} {p : List MemPlace}
    (h : DataW.Trod enc Tryz.prog W 0 (fun _ => true) true 22 (.slice a len cap) d p)
    (hw : ∀ elems spare, d = .slice elems spare → (elems.length + spare.length) * 24 ≤ 140737488355328 ∧ ∀ e' s', DataW.slice e' s' ∈ elems → e'.length + s'.length ≤ 140737488355328) : ∃ ls, Tb W (.slice a len cap) ls := by
  obtain ⟨fuel, hf⟩ := h
  rcases open_slice1 Tryz.underlying22 (by kernel_rfl) hf with ⟨hcs, _⟩ | ⟨x, l, c, m, n, V, D, Pl, hcs, _, hl, hm, hmm, hx, hel⟩
  · simp [Value.cells] at hcs
    obtain ⟨rfl, rfl, rfl⟩ := hcs
    exact ⟨[], ⟨none, 0, 0, 0, fun _ => none, fun _ => 0, rfl, Nat.le_refl _, fun h => absurd h (Nat.lt_irrefl _), fun r h => absurd h (Nat.not_lt_zero _)⟩, by simp⟩
  · simp [Value.cells] at hcs
    obtain ⟨rfl, rfl, rfl⟩ := hcs
    have hmc : m = cap := by simpa using hmm
    obtain ⟨hd, _⟩ := Prod.mk.inj hx
    obtain ⟨w1, w2⟩ := hw _ _ hd
    simp only [List.length_map, List.length_range] at w1
    obtain ⟨F, hF⟩ := choose_lt (α := Option Addr × Nat × List Nat) (n := len) (p := fun i t => V i = .slice t.1 t.2.2.length t.2.1 ∧ Rb W t.1 t.2.2.length t.2.2 ∧ t.2.2.length ≤ t.2.1 ∧ t.2.2.length ≤ 140737488355328) (fun i hi => by
      obtain ⟨_, ht⟩ := hel i (by omega)
      rcases open_ints Tryz.underlying34 Tryz.underlying5 (by kernel_rfl) ht with ⟨hv, _⟩ | ⟨y, l', c', zs, hv, hxx, hl', _, hz, hDx, hcell, hwz⟩
      · have hv' : V i = .slice none 0 0 := by simpa using hv
        exact ⟨(none, 0, []), hv', Rb.nil _ _, Nat.le_refl _, by simp⟩
      · have hv' : V i = .slice (some y) l' c' := by simpa using hv
        have htr : DataW.Trod enc Tryz.prog W 0 (fun _ => true) true 34 (.slice (some y) l' c') (D i) (Pl i) := ⟨n, by rw [hv] at ht; simpa [Value.cells] using ht⟩
        obtain ⟨xs, hr, hlc, hsz⟩ := rb_of_trod htr (fun elems spare hd' => w2 elems spare (by
          refine List.mem_map.2 ⟨i, List.mem_range.2 hi, ?_⟩
          exact hd'))
        have hlen := hr.len
        subst hlen
        exact ⟨(some y, c', xs), hv', hr, hlc, hsz.out⟩)
    obtain ⟨b, off, spot⟩ := x
    have hget : ∀ r, r < len → ((List.range len).map fun i => (F i).2.2).getD r [] = (F r).2.2 := fun r hr => by
      rw [List.getD_eq_getElem?_getD, List.getElem?_map, List.getElem?_range hr]; rfl
    by_cases h0 : len = 0
    · subst h0
      exact ⟨[], ⟨some ⟨b, off, spot⟩, 0, 0, cap, fun _ => none, fun _ => 0, rfl, Nat.zero_le _, fun h => absurd h (Nat.lt_irrefl _), fun r h => absurd h (Nat.not_lt_zero _)⟩, by simp⟩
    · have hc0 := (hel 0 (by omega)).1
      have hspot : spot = none := by simpa [Addr.add] using World.cell?_spot hc0
      subst hspot
      refine ⟨(List.range len).map fun i => (F i).2.2, ⟨some ⟨b, off, none⟩, b, off, cap, fun i => (F i).1, fun i => (F i).2.1, by simp, by simpa using hl, fun _ => rfl, fun r hr => ?_⟩, by rw [List.length_map, List.length_range]; omega⟩
      rw [List.length_map, List.length_range] at hr
      rw [hget r hr]
      obtain ⟨e1, e2, e3, e4⟩ := hF r hr
      refine ⟨?_, e2, e3, e4⟩
      have := (hel r (by omega)).1
      rw [show (⟨b, off, none⟩ : Addr).add r = ⟨b, off + r, none⟩ from by by_cases e : r = 0 <;> simp [Addr.add, e]] at this
      rw [this, e1]
end Go.Proofs.YtmooddbhcccicaaGreatDoor

/- How a list of calls comes in, with the numbers that are kept, and sizes. -/
namespace Go.Proofs.YtmooddbhcccicaaGreatDoor
open Go.ChangeShapes Go.WideShapes Go.ChangeAt Go.RowKit Go.Deep

/-- a call, as it lies at a place -/
structure Do1 (w : World) (gb o : Nat) (op i tn nn : Int) (pb : Option Addr) (cb : Nat) (xs : List Nat) (pk : Option Addr) (ck : Nat) (zs : List Int) : Prop where
  c0 : w.cell? ⟨gb, o, none⟩ = some (.int .i64 op)
  c1 : w.cell? ⟨gb, o + 1, none⟩ = some (.int .i64 i)
  c2 : w.cell? ⟨gb, o + 2, none⟩ = some (.int .i64 tn)
  c3 : w.cell? ⟨gb, o + 3, none⟩ = some (.int .i64 nn)
  c4 : w.cell? ⟨gb, o + 4, none⟩ = some (.slice pb xs.length cb)
  c5 : w.cell? ⟨gb, o + 5, none⟩ = some (.slice pk zs.length ck)
  rb : Rb w pb xs.length xs
  nb : xs.length ≤ 140737488355328
  rz : Rz w pk zs
  nz : zs.length * 8 ≤ 140737488355328
  wz : ∀ z ∈ zs, (Lit.int .i64 z).wf = true
  wt : (Lit.int .i64 tn).wf = true
  hb : ∀ a, pb = some a → 0 < xs.length → a.block < w.heap.size
structure Dos2 (w : World) (v : Value) (L : Nat) : Prop where
  form : ∃ (g : Option Addr) (gb go cap : Nat), v = .slice g L cap ∧ (0 < L → g = some ⟨gb, go, none⟩) ∧ ∀ r, r < L → ∃ (op i tn nn : Int) (pb : Option Addr) (cb : Nat) (xs : List Nat) (pk : Option Addr) (ck : Nat) (zs : List Int), Do1 w gb (go + r * 6) op i tn nn pb cb xs pk ck zs
  many : (L : Int) ≤ 9223372036854775807

theorem rb_of_cell2 {H : Type} {enc : TypeId × Value → H} {W : World} {v : Value} {k : Nat} {y : DataW H × List MemPlace} (h : DataW.trod enc Tryz.prog W 0 (fun _ => true) true k 34 [v] = some y) (hw : ∀ elems spare, y.1 = .slice elems spare → elems.length + spare.length ≤ 140737488355328) :
    ∃ p c xs, v = .slice p xs.length c ∧ Rb W p xs.length xs ∧ xs.length ≤ 140737488355328 := by
  rcases open_ints Tryz.underlying34 Tryz.underlying5 (by kernel_rfl) h with ⟨hcs, _⟩ | ⟨x, l, c, zs, hcs, _⟩
  · have hv : v = .slice none 0 0 := by simpa using hcs
    exact ⟨none, 0, [], hv, Rb.nil _ _, Nat.zero_le _⟩
  · have hv : v = .slice (some x) l c := by simpa using hcs
    subst hv
    obtain ⟨xs, r, _, hs⟩ := rb_of_trod (d := y.1) (p := y.2) ⟨k, h⟩ hw
    have := r.len
    subst this
    exact ⟨some x, c, xs, rfl, r, hs.out⟩
theorem rz_of_cell {H : Type} {enc : TypeId × Value → H} {W : World} {v : Value} {k : Nat} {y : DataW H × List MemPlace} (h : DataW.trod enc Tryz.prog W 0 (fun _ => true) true k 59 [v] = some y) (hw : ∀ elems spare, y.1 = .slice elems spare → (elems.length + spare.length) * 8 ≤ 140737488355328) :
    ∃ p c zs, v = .slice p zs.length c ∧ Rz W p zs ∧ zs.length * 8 ≤ 140737488355328 ∧ ∀ z ∈ zs, (Lit.int .i64 z).wf = true := by
  rcases open_ints Tryz.underlying59 Tryz.underlying3 (by kernel_rfl) h with ⟨hcs, _⟩ | ⟨x, l, c, zs, hcs, hxx, hl, hm, hz, hDx, hcell, hwz⟩
  · have hv : v = .slice none 0 0 := by simpa using hcs
    exact ⟨none, 0, [], hv, fun j hj => absurd hj (Nat.not_lt_zero _), by simp, fun z hz => by cases hz⟩
  · have hv : v = .slice (some x) l c := by simpa using hcs
    have hz' : zs.length = c := by simpa using hz
    have hlen := hw _ _ (by rw [hDx])
    simp only [lits, List.length_map, List.length_take, List.length_drop] at hlen
    have hll : (zs.take l).length = l := by rw [List.length_take]; omega
    refine ⟨some x, c, zs.take l, by rw [hll]; exact hv, fun j hj => ?_, by rw [hll]; omega, fun z hz => hwz z (List.mem_of_mem_take hz)⟩
    rw [hll] at hj
    obtain ⟨b, off, spot⟩ := x
    have hc := hcell j (by omega)
    have hspot : spot = none := by
      have := World.cell?_spot (hcell 0 (by omega))
      simpa [Addr.add] using this
    subst hspot
    refine ⟨b, off, rfl, ?_⟩
    rw [show (⟨b, off, none⟩ : Addr).add j = ⟨b, off + j, none⟩ from by by_cases e : j = 0 <;> simp [Addr.add, e]] at hc
    rw [hc, List.getD_eq_getElem?_getD, List.getD_eq_getElem?_getD, List.getElem?_take_of_lt hj]

/-- what the rows' sizes say of a parameter that is a list of calls -/
theorem sized_all {H : Type} {ts : List TypeId} {ds : List (DataW H)} {j : Nat} {d : DataW H} {t : TypeId} (h : (DataW.weightsEach Tryz.prog ts ds).all (· ≤ reachBytes) = true) (ht : ts[j]? = some t) (hd : ds[j]? = some d) : ∀ n ∈ d.weights Tryz.prog t, n ≤ 140737488355328 := fun n hn => by
  have hr : reachBytes ≤ 140737488355328 := by have := reachBytes_lt; omega
  have h3 := of_decide_eq_true (List.all_eq_true.1 h _ (DataW.weights_mem_each ht hd n hn))
  omega

end Go.Proofs.YtmooddbhcccicaaGreatDoor

/- How a list of a shelf's calls comes in (out of Bi). -/
namespace Go.Proofs.YtmooddbhcccicaaGreatDoor
open Go.ChangeShapes Go.WideShapes Go.ChangeAt Go.RowKit Go.Deep

theorem cellsI8 : Tryz.prog.cellsOf 3 = 1 := by kernel_rfl
theorem cellsB8 : Tryz.prog.cellsOf 34 = 1 := by kernel_rfl
theorem cellsDo8 : Tryz.prog.cellsOf 37 = 8 := by kernel_rfl
theorem cellsU8 : Tryz.prog.cellsOf 35 = 1 := by kernel_rfl
/-- a shelf's call, as it lies at a place -/
structure Do8 (w : World) (gb o : Nat) (op bl ix ep tn nn : Int) (pb : Option Addr) (cb : Nat) (xs : List Nat) (mk : Int) : Prop where
  c0 : w.cell? ⟨gb, o, none⟩ = some (.int .i64 op)
  c1 : w.cell? ⟨gb, o + 1, none⟩ = some (.int .i64 bl)
  c2 : w.cell? ⟨gb, o + 2, none⟩ = some (.int .i64 ix)
  c3 : w.cell? ⟨gb, o + 3, none⟩ = some (.int .i64 ep)
  c4 : w.cell? ⟨gb, o + 4, none⟩ = some (.int .i64 tn)
  c5 : w.cell? ⟨gb, o + 5, none⟩ = some (.int .i64 nn)
  c6 : w.cell? ⟨gb, o + 6, none⟩ = some (.slice pb xs.length cb)
  c7 : w.cell? ⟨gb, o + 7, none⟩ = some (.int .u64 mk)
  rb : Rb w pb xs.length xs
  nb : xs.length ≤ 140737488355328
  lc : xs.length ≤ cb
  hb : ∀ a, pb = some a → 0 < xs.length → a.block < w.heap.size
structure Dos8 (w : World) (v : Value) (L : Nat) : Prop where
  form : ∃ (g : Option Addr) (gb go cap : Nat), v = .slice g L cap ∧ (0 < L → g = some ⟨gb, go, none⟩) ∧ ∀ r, r < L → ∃ (op bl ix ep tn nn : Int) (pb : Option Addr) (cb : Nat) (xs : List Nat) (mk : Int), Do8 w gb (go + r * 8) op bl ix ep tn nn pb cb xs mk
  many : (L : Int) ≤ 9223372036854775807

theorem rb_of_cell8 {H : Type} {enc : TypeId × Value → H} {W : World} {v : Value} {k : Nat} {y : DataW H × List MemPlace} (h : DataW.trod enc Tryz.prog W 0 (fun _ => true) true k 34 [v] = some y) (hw : ∀ elems spare, y.1 = .slice elems spare → elems.length + spare.length ≤ 140737488355328) :
    ∃ p c xs, v = .slice p xs.length c ∧ Rb W p xs.length xs ∧ xs.length ≤ 140737488355328 ∧ xs.length ≤ c := by
  rcases open_ints Tryz.underlying34 Tryz.underlying5 (by kernel_rfl) h with ⟨hcs, _⟩ | ⟨x, l, c, zs, hcs, _⟩
  · have hv : v = .slice none 0 0 := by simpa using hcs
    exact ⟨none, 0, [], hv, Rb.nil _ _, Nat.zero_le _, Nat.zero_le _⟩
  · have hv : v = .slice (some x) l c := by simpa using hcs
    subst hv
    obtain ⟨xs, r, hlc, hs⟩ := rb_of_trod (d := y.1) (p := y.2) ⟨k, h⟩ hw
    have := r.len
    subst this
    exact ⟨some x, c, xs, rfl, r, hs.out, hlc⟩

set_option maxRecDepth 100000 in
set_option maxHeartbeats 1600000 in
theorem dos8_of_trod {H : Type} {enc : TypeId × Value → H} {W : World} {a : Option Addr} {len cap : Nat} {d : DataW H} {p : List MemPlace}
    (h : DataW.Trod enc Tryz.prog W 0 (fun _ => true) true 23 (.slice a len cap) d p) (hw : ∀ n ∈ d.weights Tryz.prog 23, n ≤ 140737488355328) : Dos8 W (.slice a len cap) len := by
  obtain ⟨fuel, hf⟩ := h
  rcases open_slice Tryz.underlying23 hf with ⟨hcs, _⟩ | ⟨x, l, c, m, n, D, Pl, hcs, _, hl, hm, hmm, hx, hel⟩
  · simp [Value.cells] at hcs
    obtain ⟨rfl, rfl, rfl⟩ := hcs
    exact ⟨⟨none, 0, 0, 0, rfl, fun h => absurd h (Nat.lt_irrefl _), fun r h => absurd h (Nat.not_lt_zero _)⟩, by omega⟩
  · simp [Value.cells] at hcs
    obtain ⟨rfl, rfl, rfl⟩ := hcs
    have hmc : m = cap := by simpa using hmm
    obtain ⟨b, off, spot⟩ := x
    have hmx : cap ≤ 9223372036854775807 := by simpa [maxLen] using hm
    have hd := (Prod.mk.inj hx).1
    have hwD : ∀ i, i < len → ∀ n ∈ (D i).weights Tryz.prog 37, n ≤ 140737488355328 := fun i hi n hn => hw n (by
      rw [hd]
      simp only [DataW.weights, Tryz.underlying23, List.mem_cons, List.mem_append]
      exact Or.inr (Or.inl (weights_in (List.mem_map.2 ⟨i, List.mem_range.2 hi, rfl⟩) n hn)))
    rw [cellsDo8] at hel
    by_cases h0 : len = 0
    · subst h0
      exact ⟨⟨some ⟨b, off, spot⟩, 0, 0, cap, rfl, fun h => absurd h (Nat.lt_irrefl _), fun r h => absurd h (Nat.not_lt_zero _)⟩, by omega⟩
    have hspot : spot = none := by
      obtain ⟨cs', h1, _⟩ := hel 0 (by omega)
      obtain ⟨_, hlen, hcell⟩ := World.cells?_some h1
      have h00 := hcell 0 (by omega)
      rw [List.getElem?_eq_getElem (by omega)] at h00
      have := World.cell?_spot h00
      simpa [Addr.add] using this
    subst hspot
    have b1 : Tryz.prog.bytesOf 5 = 1 := by kernel_rfl
    have each : ∀ i, i < len → ∃ (op bl ix ep tn nn : Int) (pb : Option Addr) (cb : Nat) (xs : List Nat) (mk : Int), Do8 W b (off + i * 8) op bl ix ep tn nn pb cb xs mk := fun i hi => by
      obtain ⟨cs', h1, h2⟩ := hel i (by omega)
      obtain ⟨_, hlen, hcell⟩ := World.cells?_some h1
      obtain ⟨xs, k, hk, hxy, _, hxl, hfd⟩ := DataW.trod_struct Tryz.underlying37 h2
      have hDi := (Prod.mk.inj hxy).1
      have hwF : ∀ (j : Nat) (t : TypeId) (y : DataW H), [3, 3, 3, 3, 3, 3, 34, 35][j]? = some t → (xs.map (·.1))[j]? = some y → ∀ n ∈ y.weights Tryz.prog t, n ≤ 140737488355328 := fun j t y ht hy n hn => hwD i hi n (by
        rw [hDi]
        simp only [DataW.weights, Tryz.underlying37]
        exact DataW.weights_mem_each (j := j) (by simpa using ht) hy n hn)
      obtain ⟨y0, y1, y2, y3, y4, y5, y6, y7, rfl⟩ : ∃ y0 y1 y2 y3 y4 y5 y6 y7, xs = [y0, y1, y2, y3, y4, y5, y6, y7] := by
        match xs, hxl with
        | [y0, y1, y2, y3, y4, y5, y6, y7], _ => exact ⟨y0, y1, y2, y3, y4, y5, y6, y7, rfl⟩
      obtain ⟨v0, v1, v2, v3, v4, v5, v6, v7, rfl⟩ : ∃ v0 v1 v2 v3 v4 v5 v6 v7, cs' = [v0, v1, v2, v3, v4, v5, v6, v7] := by
        match cs', hlen with
        | [v0, v1, v2, v3, v4, v5, v6, v7], _ => exact ⟨v0, v1, v2, v3, v4, v5, v6, v7, rfl⟩
      have g0 := hfd 0 _ rfl
      have g1 := hfd 1 _ rfl
      have g2 := hfd 2 _ rfl
      have g3 := hfd 3 _ rfl
      have g4 := hfd 4 _ rfl
      have g5 := hfd 5 _ rfl
      have g6 := hfd 6 _ rfl
      have g7 := hfd 7 _ rfl
      simp [cellsI8, cellsB8, cellsU8] at g0 g1 g2 g3 g4 g5 g6 g7
      have a0 := hcell 0 (by omega)
      have a1 := hcell 1 (by omega)
      have a2 := hcell 2 (by omega)
      have a3 := hcell 3 (by omega)
      have a4 := hcell 4 (by omega)
      have a5 := hcell 5 (by omega)
      have a6 := hcell 6 (by omega)
      have a7 := hcell 7 (by omega)
      rw [add_add] at a0 a1 a2 a3 a4 a5 a6 a7
      obtain ⟨op, e0, _, _⟩ := DataW.trod_int Tryz.underlying3 g0
      obtain ⟨bl, e1, _, _⟩ := DataW.trod_int Tryz.underlying3 g1
      obtain ⟨ix, e2, _, _⟩ := DataW.trod_int Tryz.underlying3 g2
      obtain ⟨ep, e3, _, _⟩ := DataW.trod_int Tryz.underlying3 g3
      obtain ⟨tn, e4, _, _⟩ := DataW.trod_int Tryz.underlying3 g4
      obtain ⟨nn, e5, _, _⟩ := DataW.trod_int Tryz.underlying3 g5
      obtain ⟨mk, e7, _, _⟩ := DataW.trod_int Tryz.underlying35 g7
      simp only [List.cons.injEq, and_true] at e0 e1 e2 e3 e4 e5 e7
      subst e0 e1 e2 e3 e4 e5 e7
      obtain ⟨p3, c3, xs3, rfl, hrb, hnb, hlc⟩ := rb_of_cell8 g6 (fun elems spare he => by
        have := hwF 6 34 y6.1 rfl rfl ((elems.length + spare.length) * Tryz.prog.bytesOf 5) (by rw [he]; simp [DataW.weights, Tryz.underlying34])
        rw [b1] at this
        omega)
      have hadd : ∀ j, (⟨b, off, none⟩ : Addr).add (i * 8 + j) = ⟨b, off + i * 8 + j, none⟩ := fun j => by rw [Addr.add_mid, ← Nat.add_assoc]
      rw [hadd] at a0 a1 a2 a3 a4 a5 a6 a7
      exact ⟨op, bl, ix, ep, tn, nn, p3, c3, xs3, mk, ⟨by simpa using a0, by simpa using a1, by simpa using a2, by simpa using a3, by simpa using a4, by simpa using a5, by simpa using a6, by simpa using a7, hrb, hnb, hlc, fun a ha h0 => by
        obtain ⟨b', o', e', hc'⟩ := hrb.cell 0 h0
        rw [ha] at e'
        cases e'
        exact World.block_lt_of_cell? W _ hc'⟩⟩
    exact ⟨⟨some ⟨b, off, none⟩, b, off, cap, rfl, fun _ => rfl, fun r hr => each r hr⟩, by omega⟩
end Go.Proofs.YtmooddbhcccicaaGreatDoor
