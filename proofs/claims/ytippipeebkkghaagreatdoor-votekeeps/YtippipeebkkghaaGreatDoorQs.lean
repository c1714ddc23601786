/- Structs in blocks of their own: the variables of a function. -/
import Derived.Test.YtippipeebkkghaaGreatDoorKb
import Derived.Deep.WholeRow
import Derived.Deep.MidRow
namespace Go.Proofs.YtippipeebkkghaaGreatDoor
set_option linter.unusedVariables false
open Go.RowKit Go.Deep

/-- block g holds the cells cs, from its beginning on, and they may be written -/
structure Lv (u : World) (g : Nat) (cs : List Value) : Prop where
  r : u.rangeAt g 0 cs
  t : u.there g 0 cs.length
theorem Lv.cell {u : World} {g : Nat} {cs : List Value} (h : Lv u g cs) {j : Nat} {v : Value} (hv : cs[j]? = some v) : u.cell? ⟨g, j, none⟩ = some v := by
  have := h.r j v hv
  rwa [Nat.zero_add] at this
theorem Lv.new (w : World) (cs : Array Value) (t : TypeId) : Lv (w.alloc (.cells cs t)) w.heap.size cs.toList := by
  have hh := heap_alloc_new w (.cells cs t)
  refine ⟨fun j v hv => ?_, fun j hj => ⟨?_, ?_⟩⟩
  · rw [Nat.zero_add, cell_of_row _ _ j cs _ (0, 0) hh]
    simpa using hv
  · rw [Nat.zero_add, cell_of_row _ _ j cs _ (0, 0) hh]
    simp at hj
    simp [hj]
  · exact frozen_of_row _ _ _ cs _ hh
theorem Lv.keep {S : Nat → Prop} {u u' : World} {g : Nat} {cs : List Value} (h : Lv u g cs) (k : Kp S u u') (hS : ¬ S g) : Lv u' g cs := by
  refine ⟨fun j v hv => k.cellv (h.r j v hv) hS, fun j hj => ?_⟩
  obtain ⟨h1, h2⟩ := h.t j hj
  obtain ⟨v, hv⟩ := Option.isSome_iff_exists.1 h1
  have hlt := World.block_lt_of_cell? _ _ hv
  exact ⟨by rw [k.cellv hv hS]; rfl, by rw [World.frozen?_of_block (w := u) (k.block g hlt hS)]; exact h2⟩
theorem Lv.lt {u : World} {g : Nat} {cs : List Value} (h : Lv u g cs) (h0 : 0 < cs.length) : g < u.heap.size := by
  obtain ⟨h1, _⟩ := h.t 0 h0
  obtain ⟨v, hv⟩ := Option.isSome_iff_exists.1 h1
  exact World.block_lt_of_cell? _ _ hv
theorem kp_setCells (g : Nat) : ∀ (vs : List Value) (o : Nat) (w : World), Kp (fun b => b = g) w (w.setCells g o vs)
  | [], _, w => Kp.refl _ _
  | v :: vs, o, w => by
    show Kp _ w ((w.setCell ⟨g, o, none⟩ v).setCells g (o + 1) vs)
    exact ((Kp.refl (fun b => b = g) w).setCell (fun _ => rfl) v).trans (kp_setCells g vs (o + 1) _) (fun _ _ e => e)
theorem Lv.set {w : World} {g : Nat} {cs : List Value} (h : Lv w g cs) (o : Nat) (vs : List Value) (hle : o + vs.length ≤ cs.length) : Lv (w.setCells g o vs) g (cs.take o ++ vs ++ cs.drop (o + vs.length)) := by
  have hlen : (cs.take o ++ vs ++ cs.drop (o + vs.length)).length = cs.length := by
    simp only [List.length_append, List.length_take, List.length_drop]; omega
  have ho : w.there g o vs.length := fun j hj => by have := h.t (o + j) (by omega); simpa using this
  refine ⟨fun j v hv => ?_, by rw [hlen]; exact World.there_setCells h.t g o vs⟩
  rw [Nat.zero_add]
  by_cases h1 : j < o
  · have hv' : cs[j]? = some v := by
      rw [List.append_assoc, List.getElem?_append_left (by rw [List.length_take]; omega), List.getElem?_take_of_lt h1] at hv
      exact hv
    have hr : w.rangeAt g j [v] := fun i u hu => by
      have hi0 : i = 0 := by have := (List.getElem?_eq_some_iff.1 hu).1; simp at this; exact this
      subst hi0
      simp at hu
      subst hu
      exact h.cell hv'
    have := World.rangeAt_setCells_apart hr g o vs (Or.inr (Or.inl (by simp; omega))) 0 v rfl
    simpa using this
  · by_cases h2 : j < o + vs.length
    · have hv' : vs[j - o]? = some v := by
        rw [List.getElem?_append_left (by simp; omega), List.getElem?_append_right (by simp; omega)] at hv
        rw [List.length_take, Nat.min_eq_left (by omega)] at hv
        exact hv
      have := World.rangeAt_setCells_same w g o vs ho (j - o) v hv'
      rwa [show o + (j - o) = j by omega] at this
    · have hv' : cs[j]? = some v := by
        rw [List.getElem?_append_right (by simp; omega), List.getElem?_drop] at hv
        simp only [List.length_append, List.length_take] at hv
        rw [Nat.min_eq_left (by omega), show o + vs.length + (j - (o + vs.length)) = j by omega] at hv
        exact hv
      have hr : w.rangeAt g j [v] := fun i u hu => by
        have hi0 : i = 0 := by have := (List.getElem?_eq_some_iff.1 hu).1; simp at this; exact this
        subst hi0
        simp at hu
        subst hu
        exact h.cell hv'
      have := World.rangeAt_setCells_apart hr g o vs (Or.inr (Or.inr (by omega))) 0 v rfl
      simpa using this
theorem wpList_store_lv {ops : Array Oper} {rest : List Oper} {op : Oper} {a : Act} {w : World} {Q : Exit → Act → World → Prop} (hgd : op.guard = none) (ty : TypeId) (x y : Operand) (ho : op.op = .store ty x y)
    (g o : Nat) (cs : List Value) (cells : Array Value) (hL : Lv w g cs) (hx : a.eval x = .pointer (some ⟨g, o, none⟩)) (hy : a.eval y = .agg cells)
    (hi : (Tryz.prog.info? ty).map (·.size) = some cells.size) (hle : o + cells.size ≤ cs.length) (h1 : cells.all (·.oneCell') = true)
    (h : ∀ w', Lv w' g (cs.take o ++ cells.toList ++ cs.drop (o + cells.size)) → Kp (fun b => b = g) w w' → wpList Tryz.prog ops Q rest (a.put op.dst undef) w') : wpList Tryz.prog ops Q (op :: rest) a w := by
  have ht : w.there g o cells.size := fun j hj => by have := hL.t (o + j) (by omega); simpa using this
  refine wpList_store_mid hgd ty x y ho g o cells hx hy ht hi h1 (h _ ?_ (kp_setCells g _ _ _))
  have := hL.set o cells.toList (by simpa using hle)
  simpa using this
theorem wpList_load_lv {ops : Array Oper} {rest : List Oper} {op : Oper} {a : Act} {w : World} {Q : Exit → Act → World → Prop} (hgd : op.guard = none) (ty : TypeId) (x : Operand) (ho : op.op = .load ty x)
    (g o n : Nat) (cs : List Value) (d : TypeDesc) (hL : Lv w g cs) (hx : a.eval x = .pointer (some ⟨g, o, none⟩)) (hu : Tryz.prog.underlying ty = some d) (hd : d.isRow = true)
    (hi : (Tryz.prog.info? ty).map (·.size) = some n) (hle : o + n ≤ cs.length)
    (h : wpList Tryz.prog ops Q rest (a.put op.dst (.agg ((cs.drop o).take n).toArray)) w) : wpList Tryz.prog ops Q (op :: rest) a w := by
  have hr : w.rangeAt g o ((cs.drop o).take n) := fun j v hv => by
    have hj : j < n := by
      have := (List.getElem?_eq_some_iff.1 hv).1
      rw [List.length_take] at this
      omega
    rw [List.getElem?_take_of_lt hj, List.getElem?_drop] at hv
    have := hL.r (o + j) v hv
    rwa [Nat.zero_add] at this
  exact wpList_load_mid hgd ty x ho g o hx _ d hr hu hd (by rw [hi, List.length_take, List.length_drop, Nat.min_eq_left (by omega)]) h
theorem wpList_store_all {ops : Array Oper} {rest : List Oper} {op : Oper} {a : Act} {w : World} {Q : Exit → Act → World → Prop} (hgd : op.guard = none) (ty : TypeId) (x y : Operand) (ho : op.op = .store ty x y)
    (n g : Nat) (cs : List Value) (cells : List Value) (hx : a.eval x = .pointer (some ⟨g, 0, none⟩)) (hy : a.eval y = .agg cells.toArray) (hL : Lv w g cs)
    (hi : (Tryz.prog.info? ty).map (·.size) = some n) (hn : cs.length = n) (hl : cells.length = n) (h1 : cells.toArray.all (·.oneCell') = true)
    (h : ∀ w', Lv w' g cells → Kp (fun b => b = g) w w' → wpList Tryz.prog ops Q rest (a.put op.dst undef) w') : wpList Tryz.prog ops Q (op :: rest) a w := by
  refine wpList_store_lv hgd ty x y ho g 0 cs cells.toArray hL hx hy (by rw [hi, List.size_toArray, hl]) (by rw [List.size_toArray, hl, hn]; omega) h1 (fun w' hL' k => h w' ?_ k)
  have e : cs.take 0 ++ cells.toArray.toList ++ cs.drop (0 + cells.toArray.size) = cells := by
    rw [List.size_toArray, hl, Nat.zero_add, ← hn]
    simp
  rw [e] at hL'
  exact hL'
theorem wpList_store_sub {ops : Array Oper} {rest : List Oper} {op : Oper} {a : Act} {w : World} {Q : Exit → Act → World → Prop} (hgd : op.guard = none) (ty : TypeId) (x y : Operand) (ho : op.op = .store ty x y)
    (n g o : Nat) (cs cells cs' : List Value) (hx : a.eval x = .pointer (some ⟨g, o, none⟩)) (hy : a.eval y = .agg cells.toArray) (hL : Lv w g cs)
    (hi : (Tryz.prog.info? ty).map (·.size) = some n) (hl : cells.length = n) (hle : o + n ≤ cs.length) (h1 : cells.toArray.all (·.oneCell') = true) (he : cs.take o ++ cells ++ cs.drop (o + n) = cs')
    (h : ∀ w', Lv w' g cs' → Kp (fun b => b = g) w w' → wpList Tryz.prog ops Q rest (a.put op.dst undef) w') : wpList Tryz.prog ops Q (op :: rest) a w := by
  refine wpList_store_lv hgd ty x y ho g o cs cells.toArray hL hx hy (by rw [hi, List.size_toArray, hl]) (by rw [List.size_toArray, hl]; exact hle) h1 (fun w' hL' k => h w' ?_ k)
  rw [List.size_toArray, hl] at hL'
  rw [← he]
  exact hL'
theorem wpList_load_all {ops : Array Oper} {rest : List Oper} {op : Oper} {a : Act} {w : World} {Q : Exit → Act → World → Prop} (hgd : op.guard = none) (ty : TypeId) (x : Operand) (ho : op.op = .load ty x)
    (n g : Nat) (cs : List Value) (hx : a.eval x = .pointer (some ⟨g, 0, none⟩)) (hL : Lv w g cs) (hd : ∃ d, Tryz.prog.underlying ty = some d ∧ d.isRow = true)
    (hi : (Tryz.prog.info? ty).map (·.size) = some n) (hn : cs.length = n)
    (h : wpList Tryz.prog ops Q rest (a.put op.dst (.agg cs.toArray)) w) : wpList Tryz.prog ops Q (op :: rest) a w := by
  obtain ⟨d, hd1, hd2⟩ := hd
  refine wpList_load_lv hgd ty x ho g 0 n cs d hL hx hd1 hd2 hi (by omega) ?_
  rw [List.drop_zero, ← hn, List.take_length]
  exact h
theorem Lv.load {u : World} {g : Nat} {cs : List Value} (h : Lv u g cs) {ty : TypeId} {n : Nat} (hd : ∃ d, Tryz.prog.underlying ty = some d ∧ d.isRow = true) (hi : (Tryz.prog.info? ty).map (·.size) = some n) (hn : cs.length = n) : (loadVar ty ⟨g, 0, none⟩).run Tryz.prog u = .ok (.agg cs.toArray) u := by
  obtain ⟨d, hd1, hd2⟩ := hd
  exact run_loadVar_mid u g 0 ty cs d h.r hd1 hd2 (by rw [hi, hn])
theorem Lv.set1 {w : World} {g : Nat} {cs : List Value} (h : Lv w g cs) (o : Nat) (v : Value) (ho : o < cs.length) : Lv (w.setCell ⟨g, o, none⟩ v) g (cs.take o ++ [v] ++ cs.drop (o + 1)) := h.set o [v] (by simp; omega)
theorem Lv.fz {u : World} {g : Nat} {cs : List Value} (h : Lv u g cs) {j : Nat} (hj : j < cs.length) : u.frozen? ⟨g, j, none⟩ = false := by
  have := (h.t j hj).2
  rwa [Nat.zero_add] at this
theorem res_cell {fn : Func} {t : Tmp} {ty : TypeId} (h : fn.results = #[.cell t ty]) (tmps : Array Value) (w : World) (g : Nat) (v : Value) (ht : tmps.getD t undef = .pointer (some ⟨g, 0, none⟩)) (hl : (loadVar ty ⟨g, 0, none⟩).run Tryz.prog w = .ok v w) :
    (results fn tmps).run Tryz.prog w = .ok v w := by
  have ht' : tmps[t]?.getD undef = .pointer (some ⟨g, 0, none⟩) := by simpa using ht
  simp [results, h, ht', asAddr, hl]
theorem res_cell_tmp {fn : Func} {t t2 : Tmp} {ty : TypeId} (h : fn.results = #[.cell t ty, .tmp t2]) (tmps : Array Value) (w : World) (g : Nat) (v : Value) (ht : tmps.getD t undef = .pointer (some ⟨g, 0, none⟩)) (hl : (loadVar ty ⟨g, 0, none⟩).run Tryz.prog w = .ok v w) :
    (results fn tmps).run Tryz.prog w = .ok (.tuple #[v, tmps.getD t2 undef]) w := by
  have ht' : tmps[t]?.getD undef = .pointer (some ⟨g, 0, none⟩) := by simpa using ht
  simp [results, h, ht', asAddr, hl]
end Go.Proofs.YtippipeebkkghaaGreatDoor
