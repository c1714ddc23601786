/- How asks and events come in (laid by scripts/mkuv.py). -/
import Derived.Test.YtbbgplnenbkfeaaUp
import Derived.Test.YtbbgplnenbkfeaaFt
import Derived.Deep.Slices
namespace Go.Proofs.Ytbbgplnenbkfeaa
set_option linter.unusedVariables false
set_option linter.unusedSimpArgs false
open Go.ChangeShapes Go.WideShapes Go.ChangeAt Go.RowKit Go.Deep

/-- an ask -/
structure Ak where
  (id kind : Int) (key : ByteArray) (b : By)
abbrev acell (e : Ak) : List Value := [.int .i64 e.id, .int .i64 e.kind, .string e.key, e.b.v]
structure Ak.ok (w : World) (e : Ak) : Prop where
  b : e.b.ok w
  k : -9223372036854775808 ≤ e.kind ∧ e.kind ≤ 9223372036854775807
  s : e.key.size ≤ maxLen
def aflat : List Ak → List Value
  | [] => []
  | x :: l => acell x ++ aflat l
theorem cellsI : Try.prog.cellsOf 3 = 1 := by kernel_rfl
theorem cellsB1 : Try.prog.cellsOf 4 = 1 := by kernel_rfl
theorem cellsS : Try.prog.cellsOf 9 = 1 := by kernel_rfl
theorem cellsB : Try.prog.cellsOf 27 = 1 := by kernel_rfl
theorem cellsAk : Try.prog.cellsOf 38 = 4 := by kernel_rfl
theorem cellsEv : Try.prog.cellsOf 29 = 5 := by kernel_rfl
theorem weights_in {H : Type} {P : Program} {e : TypeId} {d : DataW H} : ∀ {l : List (DataW H)}, d ∈ l → ∀ n, n ∈ d.weights P e → n ∈ DataW.weightsAll P e l
  | [], h, _, _ => by cases h
  | x :: r, h, n, hn => by
    simp only [DataW.weightsAll, List.mem_append]
    rcases List.mem_cons.1 h with rfl | h
    · exact Or.inl hn
    · exact Or.inr (weights_in h n hn)
theorem rb_of_cell2 {H : Type} {enc : TypeId × Value → H} {W : World} {v : Value} {k : Nat} {y : DataW H × List MemPlace} (h : DataW.trod enc Try.prog W 0 (fun _ => true) true k 27 [v] = some y) (hw : ∀ elems spare, y.1 = .slice elems spare → elems.length + spare.length ≤ 140737488355328) :
    ∃ p c xs, v = .slice p xs.length c ∧ Rb W p xs.length xs ∧ xs.length ≤ 140737488355328 := by
  rcases open_ints Try.underlying27 Try.underlying5 (by kernel_rfl) h with ⟨hcs, _⟩ | ⟨x, l, c, zs, hcs, _⟩
  · have hv : v = .slice none 0 0 := by simpa using hcs
    exact ⟨none, 0, [], hv, Rb.nil _ _, Nat.zero_le _⟩
  · have hv : v = .slice (some x) l c := by simpa using hcs
    subst hv
    obtain ⟨xs, r, _, hs⟩ := rb_of_trod (d := y.1) (p := y.2) ⟨k, h⟩ hw
    have := r.len
    subst this
    exact ⟨some x, c, xs, rfl, r, hs.out⟩
theorem sized_all {H : Type} {ts : List TypeId} {ds : List (DataW H)} {j : Nat} {d : DataW H} {t : TypeId} (h : (DataW.weightsEach Try.prog ts ds).all (· ≤ reachBytes) = true) (ht : ts[j]? = some t) (hd : ds[j]? = some d) : ∀ n ∈ d.weights Try.prog t, n ≤ 140737488355328 := fun n hn => by
  have hr : reachBytes ≤ 140737488355328 := by have := reachBytes_lt; omega
  have h3 := of_decide_eq_true (List.all_eq_true.1 h _ (DataW.weights_mem_each ht hd n hn))
  omega
theorem list_of {α : Type} {P : Nat → α → Prop} : ∀ n, (∀ i, i < n → ∃ x, P i x) → ∃ l : List α, l.length = n ∧ ∀ i x, l[i]? = some x → P i x
  | 0, _ => ⟨[], rfl, fun i x h => by simp at h⟩
  | n + 1, h => by
    obtain ⟨l, hl, hp⟩ := list_of n (fun i hi => h i (by omega))
    obtain ⟨x, hx⟩ := h n (by omega)
    refine ⟨l ++ [x], by simp [hl], fun i y hy => ?_⟩
    rcases Nat.lt_or_ge i l.length with e | e
    · rw [List.getElem?_append_left e] at hy; exact hp i y hy
    · rw [List.getElem?_append_right e] at hy
      obtain ⟨h9, h8⟩ := List.getElem?_eq_some_iff.1 hy
      have h7 : i - l.length = 0 := by simp at h9; omega
      simp [h7] at h8
      subst h8
      have : i = n := by omega
      subst this
      exact hx
theorem i64_of {z : Int} (h : (Lit.int .i64 z).wf = true) : -9223372036854775808 ≤ z ∧ z ≤ 9223372036854775807 := by
  have h2 : (decide (IntKind.i64.min ≤ z) && decide (z ≤ IntKind.i64.max)) = true := h
  rw [Bool.and_eq_true] at h2
  exact ⟨of_decide_eq_true h2.1, of_decide_eq_true h2.2⟩
theorem aflat_get : ∀ (l : List Ak) (k j : Nat) (c : Ak) (v : Value), l[k]? = some c → (acell c)[j]? = some v → (aflat l)[k * 4 + j]? = some v
  | [], k, j, c, v, h, _ => by simp at h
  | x :: l, 0, j, c, v, h, hv => by
    simp at h
    subst h
    show (acell x ++ aflat l)[0 * 4 + j]? = _
    have hj : j < 4 := by have := (List.getElem?_eq_some_iff.1 hv).1; simpa using this
    rw [Nat.zero_mul, Nat.zero_add, List.getElem?_append_left (by simpa using hj)]
    exact hv
  | x :: l, k + 1, j, c, v, h, hv => by
    have := aflat_get l k j c v (by simpa using h) hv
    show (acell x ++ aflat l)[(k + 1) * 4 + j]? = _
    rw [List.getElem?_append_right (by simp; omega)]
    have e : (k + 1) * 4 + j - (acell x).length = k * 4 + j := by simp; omega
    rw [e]
    exact this
theorem aflat_at {l : List Ak} {i : Nat} {u : Value} (h : (aflat l)[i]? = some u) : ∃ (k j : Nat) (c : Ak), l[k]? = some c ∧ (acell c)[j]? = some u ∧ i = k * 4 + j := by
  have hi : i < l.length * 4 := by
    have := (List.getElem?_eq_some_iff.1 h).1
    have hl : (aflat l).length = l.length * 4 := by
      clear h this
      induction l with
      | nil => rfl
      | cons x l ih => show (acell x ++ aflat l).length = _; rw [List.length_append, ih]; simp; omega
    omega
  have hk : i / 4 < l.length := by omega
  obtain ⟨c, hc⟩ : ∃ c, l[i / 4]? = some c := ⟨_, List.getElem?_eq_getElem hk⟩
  have hj : i % 4 < 4 := Nat.mod_lt _ (by decide)
  obtain ⟨v, hv⟩ : ∃ v, (acell c)[i % 4]? = some v := ⟨_, List.getElem?_eq_getElem (by simpa using hj)⟩
  have := aflat_get l (i / 4) (i % 4) c v hc hv
  have e : i / 4 * 4 + i % 4 = i := by omega
  rw [e, h] at this
  cases this
  exact ⟨_, _, c, hc, hv, e.symm⟩
set_option maxRecDepth 100000 in
set_option maxHeartbeats 1600000 in
theorem asks_of_trod {H : Type} {enc : TypeId × Value → H} {W : World} {a : Option Addr} {len cap : Nat} {d : DataW H} {p : List MemPlace}
    (h : DataW.Trod enc Try.prog W 0 (fun _ => true) true 24 (.slice a len cap) d p) (hw : ∀ n ∈ d.weights Try.prog 24, n ≤ 140737488355328) : ∃ l : List Ak, l.length = len ∧ Fl W (fun _ => True) a (aflat l) ∧ (∀ x ∈ l, x.ok W) ∧ (len : Int) ≤ 9223372036854775807 ∧ len ≤ cap := by
  obtain ⟨fuel, hf⟩ := h
  rcases open_slice Try.underlying24 hf with ⟨hcs, _⟩ | ⟨x, l, c, m, n, D, Pl, hcs, _, hl, hm, hmm, hx, hel⟩
  · simp [Value.cells] at hcs
    obtain ⟨rfl, rfl, rfl⟩ := hcs
    exact ⟨[], rfl, fun j u hj => by simp [aflat] at hj, fun x hx => (by cases hx), by omega, Nat.le_refl _⟩
  · simp [Value.cells] at hcs
    obtain ⟨rfl, rfl, rfl⟩ := hcs
    have hmc : m = cap := by simpa using hmm
    obtain ⟨b, off, spot⟩ := x
    have hmx : cap ≤ 9223372036854775807 := by simpa [maxLen] using hm
    have hd := (Prod.mk.inj hx).1
    have hwD : ∀ i, i < len → ∀ n ∈ (D i).weights Try.prog 38, n ≤ 140737488355328 := fun i hi n hn => hw n (by
      rw [hd]
      simp only [DataW.weights, Try.underlying24, List.mem_cons, List.mem_append]
      exact Or.inr (Or.inl (weights_in (List.mem_map.2 ⟨i, List.mem_range.2 hi, rfl⟩) n hn)))
    rw [cellsAk] at hel
    by_cases h0 : len = 0
    · subst h0
      exact ⟨[], rfl, fun j u hj => by simp [aflat] at hj, fun x hx => (by cases hx), by omega, Nat.zero_le _⟩
    have hspot : spot = none := by
      obtain ⟨cs', h1, _⟩ := hel 0 (by omega)
      obtain ⟨_, hlen, hcell⟩ := World.cells?_some h1
      have h00 := hcell 0 (by omega)
      rw [List.getElem?_eq_getElem (by omega)] at h00
      have := World.cell?_spot h00
      simpa [Addr.add] using this
    subst hspot
    have b1 : Try.prog.bytesOf 5 = 1 := by kernel_rfl
    have each : ∀ i, i < len → ∃ x : Ak, x.ok W ∧ ∀ j u, (acell x)[j]? = some u → W.cell? ⟨b, off + i * 4 + j, none⟩ = some u := fun i hi => by
      obtain ⟨cs', h1, h2⟩ := hel i (by omega)
      obtain ⟨_, hlen, hcell⟩ := World.cells?_some h1
      obtain ⟨xs, k, hk, hxy, _, hxl, hfd⟩ := DataW.trod_struct Try.underlying38 h2
      have hDi := (Prod.mk.inj hxy).1
      have hwF : ∀ (j : Nat) (t : TypeId) (y : DataW H), [3, 3, 9, 27][j]? = some t → (xs.map (·.1))[j]? = some y → ∀ n ∈ y.weights Try.prog t, n ≤ 140737488355328 := fun j t y ht hy n hn => hwD i hi n (by
        rw [hDi]
        simp only [DataW.weights, Try.underlying38]
        exact DataW.weights_mem_each (j := j) (by simpa using ht) hy n hn)
      obtain ⟨y0, y1, y2, y3, rfl⟩ : ∃ y0 y1 y2 y3, xs = [y0, y1, y2, y3] := by
        match xs, hxl with
        | [y0, y1, y2, y3], _ => exact ⟨y0, y1, y2, y3, rfl⟩
      obtain ⟨v0, v1, v2, v3, rfl⟩ : ∃ v0 v1 v2 v3, cs' = [v0, v1, v2, v3] := by
        match cs', hlen with
        | [v0, v1, v2, v3], _ => exact ⟨v0, v1, v2, v3, rfl⟩
      have g0 := hfd 0 _ rfl
      have g1 := hfd 1 _ rfl
      have g2 := hfd 2 _ rfl
      have g3 := hfd 3 _ rfl
      simp [cellsI, cellsB, cellsS, cellsB1] at g0 g1 g2 g3
      obtain ⟨z0, e0, _, wz0⟩ := DataW.trod_int Try.underlying3 g0
      obtain ⟨z1, e1, _, wz1⟩ := DataW.trod_int Try.underlying3 g1
      obtain ⟨z2, e2, _, ws2⟩ := DataW.trod_string Try.underlying9 g2
      simp only [List.cons.injEq, and_true] at e0 e1 e2
      subst e0 e1 e2
      obtain ⟨pb, cb, xs4, rfl, hrb, hnb⟩ := rb_of_cell2 g3 (fun elems spare he => by
        have := hwF 3 27 y3.1 rfl rfl ((elems.length + spare.length) * Try.prog.bytesOf 5) (by rw [he]; simp [DataW.weights, Try.underlying27])
        rw [b1] at this
        omega)
      refine ⟨⟨z0, z1, z2, ⟨.slice pb xs4.length cb, xs4⟩⟩, ⟨⟨⟨pb, cb, rfl, hrb⟩, hnb⟩, i64_of wz1, ws2⟩, fun j u hj => ?_⟩
      have hj9 : j < 4 := by have := (List.getElem?_eq_some_iff.1 hj).1; simpa using this
      have hc := hcell j (by omega)
      rw [Addr.add_mid, Addr.add_mid] at hc
      rw [hc]
      exact hj
    obtain ⟨l, hll, hlp⟩ := list_of len each
    refine ⟨l, hll, fun j u hj => ?_, fun x hx => ?_, by omega, hl⟩
    · obtain ⟨k, i, c, hk, hi, rfl⟩ := aflat_at hj
      have := (hlp k c hk).2 i u hi
      exact ⟨b, off, rfl, trivial, by rw [← Nat.add_assoc]; exact this⟩
    · obtain ⟨i, hi⟩ := List.getElem?_of_mem hx
      exact (hlp i x hi).1
theorem eflat_get : ∀ (l : List Ev) (k j : Nat) (c : Ev) (v : Value), l[k]? = some c → (ecell c)[j]? = some v → (eflat l)[k * 5 + j]? = some v
  | [], k, j, c, v, h, _ => by simp at h
  | x :: l, 0, j, c, v, h, hv => by
    simp at h
    subst h
    show (ecell x ++ eflat l)[0 * 5 + j]? = _
    have hj : j < 5 := by have := (List.getElem?_eq_some_iff.1 hv).1; simpa using this
    rw [Nat.zero_mul, Nat.zero_add, List.getElem?_append_left (by simpa using hj)]
    exact hv
  | x :: l, k + 1, j, c, v, h, hv => by
    have := eflat_get l k j c v (by simpa using h) hv
    show (ecell x ++ eflat l)[(k + 1) * 5 + j]? = _
    rw [List.getElem?_append_right (by simp; omega)]
    have e : (k + 1) * 5 + j - (ecell x).length = k * 5 + j := by simp; omega
    rw [e]
    exact this
theorem eflat_at {l : List Ev} {i : Nat} {u : Value} (h : (eflat l)[i]? = some u) : ∃ (k j : Nat) (c : Ev), l[k]? = some c ∧ (ecell c)[j]? = some u ∧ i = k * 5 + j := by
  have hi : i < l.length * 5 := by
    have := (List.getElem?_eq_some_iff.1 h).1
    have hl : (eflat l).length = l.length * 5 := by
      clear h this
      induction l with
      | nil => rfl
      | cons x l ih => show (ecell x ++ eflat l).length = _; rw [List.length_append, ih]; simp; omega
    omega
  have hk : i / 5 < l.length := by omega
  obtain ⟨c, hc⟩ : ∃ c, l[i / 5]? = some c := ⟨_, List.getElem?_eq_getElem hk⟩
  have hj : i % 5 < 5 := Nat.mod_lt _ (by decide)
  obtain ⟨v, hv⟩ : ∃ v, (ecell c)[i % 5]? = some v := ⟨_, List.getElem?_eq_getElem (by simpa using hj)⟩
  have := eflat_get l (i / 5) (i % 5) c v hc hv
  have e : i / 5 * 5 + i % 5 = i := by omega
  rw [e, h] at this
  cases this
  exact ⟨_, _, c, hc, hv, e.symm⟩
set_option maxRecDepth 100000 in
set_option maxHeartbeats 1600000 in
theorem events_of_trod {H : Type} {enc : TypeId × Value → H} {W : World} {a : Option Addr} {len cap : Nat} {d : DataW H} {p : List MemPlace}
    (h : DataW.Trod enc Try.prog W 0 (fun _ => true) true 22 (.slice a len cap) d p) (hw : ∀ n ∈ d.weights Try.prog 22, n ≤ 140737488355328) : ∃ l : List Ev, l.length = len ∧ Fl W (fun _ => True) a (eflat l) ∧ (∀ x ∈ l, x.ok W) ∧ (len : Int) ≤ 9223372036854775807 ∧ len ≤ cap := by
  obtain ⟨fuel, hf⟩ := h
  rcases open_slice Try.underlying22 hf with ⟨hcs, _⟩ | ⟨x, l, c, m, n, D, Pl, hcs, _, hl, hm, hmm, hx, hel⟩
  · simp [Value.cells] at hcs
    obtain ⟨rfl, rfl, rfl⟩ := hcs
    exact ⟨[], rfl, fun j u hj => by simp [eflat] at hj, fun x hx => (by cases hx), by omega, Nat.le_refl _⟩
  · simp [Value.cells] at hcs
    obtain ⟨rfl, rfl, rfl⟩ := hcs
    have hmc : m = cap := by simpa using hmm
    obtain ⟨b, off, spot⟩ := x
    have hmx : cap ≤ 9223372036854775807 := by simpa [maxLen] using hm
    have hd := (Prod.mk.inj hx).1
    have hwD : ∀ i, i < len → ∀ n ∈ (D i).weights Try.prog 29, n ≤ 140737488355328 := fun i hi n hn => hw n (by
      rw [hd]
      simp only [DataW.weights, Try.underlying22, List.mem_cons, List.mem_append]
      exact Or.inr (Or.inl (weights_in (List.mem_map.2 ⟨i, List.mem_range.2 hi, rfl⟩) n hn)))
    rw [cellsEv] at hel
    by_cases h0 : len = 0
    · subst h0
      exact ⟨[], rfl, fun j u hj => by simp [eflat] at hj, fun x hx => (by cases hx), by omega, Nat.zero_le _⟩
    have hspot : spot = none := by
      obtain ⟨cs', h1, _⟩ := hel 0 (by omega)
      obtain ⟨_, hlen, hcell⟩ := World.cells?_some h1
      have h00 := hcell 0 (by omega)
      rw [List.getElem?_eq_getElem (by omega)] at h00
      have := World.cell?_spot h00
      simpa [Addr.add] using this
    subst hspot
    have b1 : Try.prog.bytesOf 5 = 1 := by kernel_rfl
    have each : ∀ i, i < len → ∃ x : Ev, x.ok W ∧ ∀ j u, (ecell x)[j]? = some u → W.cell? ⟨b, off + i * 5 + j, none⟩ = some u := fun i hi => by
      obtain ⟨cs', h1, h2⟩ := hel i (by omega)
      obtain ⟨_, hlen, hcell⟩ := World.cells?_some h1
      obtain ⟨xs, k, hk, hxy, _, hxl, hfd⟩ := DataW.trod_struct Try.underlying29 h2
      have hDi := (Prod.mk.inj hxy).1
      have hwF : ∀ (j : Nat) (t : TypeId) (y : DataW H), [4, 3, 3, 9, 27][j]? = some t → (xs.map (·.1))[j]? = some y → ∀ n ∈ y.weights Try.prog t, n ≤ 140737488355328 := fun j t y ht hy n hn => hwD i hi n (by
        rw [hDi]
        simp only [DataW.weights, Try.underlying29]
        exact DataW.weights_mem_each (j := j) (by simpa using ht) hy n hn)
      obtain ⟨y0, y1, y2, y3, y4, rfl⟩ : ∃ y0 y1 y2 y3 y4, xs = [y0, y1, y2, y3, y4] := by
        match xs, hxl with
        | [y0, y1, y2, y3, y4], _ => exact ⟨y0, y1, y2, y3, y4, rfl⟩
      obtain ⟨v0, v1, v2, v3, v4, rfl⟩ : ∃ v0 v1 v2 v3 v4, cs' = [v0, v1, v2, v3, v4] := by
        match cs', hlen with
        | [v0, v1, v2, v3, v4], _ => exact ⟨v0, v1, v2, v3, v4, rfl⟩
      have g0 := hfd 0 _ rfl
      have g1 := hfd 1 _ rfl
      have g2 := hfd 2 _ rfl
      have g3 := hfd 3 _ rfl
      have g4 := hfd 4 _ rfl
      simp [cellsI, cellsB, cellsS, cellsB1] at g0 g1 g2 g3 g4
      obtain ⟨z0, e0, _⟩ := DataW.trod_bool Try.underlying4 g0
      obtain ⟨z1, e1, _, wz1⟩ := DataW.trod_int Try.underlying3 g1
      obtain ⟨z2, e2, _, wz2⟩ := DataW.trod_int Try.underlying3 g2
      obtain ⟨z3, e3, _, ws3⟩ := DataW.trod_string Try.underlying9 g3
      simp only [List.cons.injEq, and_true] at e0 e1 e2 e3
      subst e0 e1 e2 e3
      obtain ⟨pb, cb, xs4, rfl, hrb, hnb⟩ := rb_of_cell2 g4 (fun elems spare he => by
        have := hwF 4 27 y4.1 rfl rfl ((elems.length + spare.length) * Try.prog.bytesOf 5) (by rw [he]; simp [DataW.weights, Try.underlying27])
        rw [b1] at this
        omega)
      refine ⟨⟨z0, z1, z2, z3, ⟨.slice pb xs4.length cb, xs4⟩⟩, ⟨⟨⟨pb, cb, rfl, hrb⟩, hnb⟩, i64_of wz1, ws3⟩, fun j u hj => ?_⟩
      have hj9 : j < 5 := by have := (List.getElem?_eq_some_iff.1 hj).1; simpa using this
      have hc := hcell j (by omega)
      rw [Addr.add_mid, Addr.add_mid] at hc
      rw [hc]
      exact hj
    obtain ⟨l, hll, hlp⟩ := list_of len each
    refine ⟨l, hll, fun j u hj => ?_, fun x hx => ?_, by omega, hl⟩
    · obtain ⟨k, i, c, hk, hi, rfl⟩ := eflat_at hj
      have := (hlp k c hk).2 i u hi
      exact ⟨b, off, rfl, trivial, by rw [← Nat.add_assoc]; exact this⟩
    · obtain ⟨i, hi⟩ := List.getElem?_of_mem hx
      exact (hlp i x hi).1
end Go.Proofs.Ytbbgplnenbkfeaa
