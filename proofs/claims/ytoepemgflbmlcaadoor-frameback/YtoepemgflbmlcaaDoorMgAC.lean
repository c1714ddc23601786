/- Texts of this proof, joined: Qs, Qm. -/
import Derived.Test.YtoepemgflbmlcaaDoorMgAA
import Derived.Deep.WholeRow
import Derived.Deep.MidRow
import Derived.Maps.OwnSet
import Derived.Maps.OwnOps
import Derived.Maps.RangeWalk
import Derived.Maps.Views
import Derived.StillTailTactics
import Derived.Lib.MinMax
import Derived.Lib.SmallJoins
/- Structs in blocks of their own: the variables of a function. -/
namespace Go.Proofs.YtoepemgflbmlcaaDoor
set_option linter.unusedVariables false
open Go.RowKit Go.Deep

/-- block g holds the cells cs, from its beginning on, and they may be written -/
structure Lv (u : World) (g : Nat) (cs : List Value) : Prop where
  r : u.rangeAt g 0 cs
  t : u.there g 0 cs.length
theorem Lv.cell {u : World} {g : Nat} {cs : List Value} (h : Lv u g cs) {j : Nat} {v : Value} (hv : cs[j]? = some v) : u.cell? ⟨g, j, none⟩ = some v := by
  have := h.r j v hv
  rwa [Nat.zero_add] at this
theorem Lv.new (w : World) (cs : Array Value) (t : TypeId) : Lv (w.alloc (.cells cs t)) w.heap.size cs.toList := by
  have hh := heap_alloc_new w (.cells cs t)
  refine ⟨fun j v hv => ?_, fun j hj => ⟨?_, ?_⟩⟩
  · rw [Nat.zero_add, cell_of_row _ _ j cs _ (0, 0) hh]
    simpa using hv
  · rw [Nat.zero_add, cell_of_row _ _ j cs _ (0, 0) hh]
    simp at hj
    simp [hj]
  · exact frozen_of_row _ _ _ cs _ hh
theorem Lv.keep {S : Nat → Prop} {u u' : World} {g : Nat} {cs : List Value} (h : Lv u g cs) (k : Kp S u u') (hS : ¬ S g) : Lv u' g cs := by
  refine ⟨fun j v hv => k.cellv (h.r j v hv) hS, fun j hj => ?_⟩
  obtain ⟨h1, h2⟩ := h.t j hj
  obtain ⟨v, hv⟩ := Option.isSome_iff_exists.1 h1
  have hlt := World.block_lt_of_cell? _ _ hv
  exact ⟨by rw [k.cellv hv hS]; rfl, by rw [World.frozen?_of_block (w := u) (k.block g hlt hS)]; exact h2⟩
theorem Lv.lt {u : World} {g : Nat} {cs : List Value} (h : Lv u g cs) (h0 : 0 < cs.length) : g < u.heap.size := by
  obtain ⟨h1, _⟩ := h.t 0 h0
  obtain ⟨v, hv⟩ := Option.isSome_iff_exists.1 h1
  exact World.block_lt_of_cell? _ _ hv
theorem kp_setCells (g : Nat) : ∀ (vs : List Value) (o : Nat) (w : World), Kp (fun b => b = g) w (w.setCells g o vs)
  | [], _, w => Kp.refl _ _
  | v :: vs, o, w => by
    show Kp _ w ((w.setCell ⟨g, o, none⟩ v).setCells g (o + 1) vs)
    exact ((Kp.refl (fun b => b = g) w).setCell (fun _ => rfl) v).trans (kp_setCells g vs (o + 1) _) (fun _ _ e => e)
theorem Lv.set {w : World} {g : Nat} {cs : List Value} (h : Lv w g cs) (o : Nat) (vs : List Value) (hle : o + vs.length ≤ cs.length) : Lv (w.setCells g o vs) g (cs.take o ++ vs ++ cs.drop (o + vs.length)) := by
  have hlen : (cs.take o ++ vs ++ cs.drop (o + vs.length)).length = cs.length := by
    simp only [List.length_append, List.length_take, List.length_drop]; omega
  have ho : w.there g o vs.length := fun j hj => by have := h.t (o + j) (by omega); simpa using this
  refine ⟨fun j v hv => ?_, by rw [hlen]; exact World.there_setCells h.t g o vs⟩
  rw [Nat.zero_add]
  by_cases h1 : j < o
  · have hv' : cs[j]? = some v := by
      rw [List.append_assoc, List.getElem?_append_left (by rw [List.length_take]; omega), List.getElem?_take_of_lt h1] at hv
      exact hv
    have hr : w.rangeAt g j [v] := fun i u hu => by
      have hi0 : i = 0 := by have := (List.getElem?_eq_some_iff.1 hu).1; simp at this; exact this
      subst hi0
      simp at hu
      subst hu
      exact h.cell hv'
    have := World.rangeAt_setCells_apart hr g o vs (Or.inr (Or.inl (by simp; omega))) 0 v rfl
    simpa using this
  · by_cases h2 : j < o + vs.length
    · have hv' : vs[j - o]? = some v := by
        rw [List.getElem?_append_left (by simp; omega), List.getElem?_append_right (by simp; omega)] at hv
        rw [List.length_take, Nat.min_eq_left (by omega)] at hv
        exact hv
      have := World.rangeAt_setCells_same w g o vs ho (j - o) v hv'
      rwa [show o + (j - o) = j by omega] at this
    · have hv' : cs[j]? = some v := by
        rw [List.getElem?_append_right (by simp; omega), List.getElem?_drop] at hv
        simp only [List.length_append, List.length_take] at hv
        rw [Nat.min_eq_left (by omega), show o + vs.length + (j - (o + vs.length)) = j by omega] at hv
        exact hv
      have hr : w.rangeAt g j [v] := fun i u hu => by
        have hi0 : i = 0 := by have := (List.getElem?_eq_some_iff.1 hu).1; simp at this; exact this
        subst hi0
        simp at hu
        subst hu
        exact h.cell hv'
      have := World.rangeAt_setCells_apart hr g o vs (Or.inr (Or.inr (by omega))) 0 v rfl
      simpa using this
theorem wpList_store_lv {ops : Array Oper} {rest : List Oper} {op : Oper} {a : Act} {w : World} {Q : Exit → Act → World → Prop} (hgd : op.guard = none) (ty : TypeId) (x y : Operand) (ho : op.op = .store ty x y)
    (g o : Nat) (cs : List Value) (cells : Array Value) (hL : Lv w g cs) (hx : a.eval x = .pointer (some ⟨g, o, none⟩)) (hy : a.eval y = .agg cells)
    (hi : (Tryd.prog.info? ty).map (·.size) = some cells.size) (hle : o + cells.size ≤ cs.length) (h1 : cells.all (·.oneCell') = true)
    (h : ∀ w', Lv w' g (cs.take o ++ cells.toList ++ cs.drop (o + cells.size)) → Kp (fun b => b = g) w w' → wpList Tryd.prog ops Q rest (a.put op.dst undef) w') : wpList Tryd.prog ops Q (op :: rest) a w := by
  have ht : w.there g o cells.size := fun j hj => by have := hL.t (o + j) (by omega); simpa using this
  refine wpList_store_mid hgd ty x y ho g o cells hx hy ht hi h1 (h _ ?_ (kp_setCells g _ _ _))
  have := hL.set o cells.toList (by simpa using hle)
  simpa using this
theorem wpList_load_lv {ops : Array Oper} {rest : List Oper} {op : Oper} {a : Act} {w : World} {Q : Exit → Act → World → Prop} (hgd : op.guard = none) (ty : TypeId) (x : Operand) (ho : op.op = .load ty x)
    (g o n : Nat) (cs : List Value) (d : TypeDesc) (hL : Lv w g cs) (hx : a.eval x = .pointer (some ⟨g, o, none⟩)) (hu : Tryd.prog.underlying ty = some d) (hd : d.isRow = true)
    (hi : (Tryd.prog.info? ty).map (·.size) = some n) (hle : o + n ≤ cs.length)
    (h : wpList Tryd.prog ops Q rest (a.put op.dst (.agg ((cs.drop o).take n).toArray)) w) : wpList Tryd.prog ops Q (op :: rest) a w := by
  have hr : w.rangeAt g o ((cs.drop o).take n) := fun j v hv => by
    have hj : j < n := by
      have := (List.getElem?_eq_some_iff.1 hv).1
      rw [List.length_take] at this
      omega
    rw [List.getElem?_take_of_lt hj, List.getElem?_drop] at hv
    have := hL.r (o + j) v hv
    rwa [Nat.zero_add] at this
  exact wpList_load_mid hgd ty x ho g o hx _ d hr hu hd (by rw [hi, List.length_take, List.length_drop, Nat.min_eq_left (by omega)]) h
theorem wpList_store_all {ops : Array Oper} {rest : List Oper} {op : Oper} {a : Act} {w : World} {Q : Exit → Act → World → Prop} (hgd : op.guard = none) (ty : TypeId) (x y : Operand) (ho : op.op = .store ty x y)
    (n g : Nat) (cs : List Value) (cells : List Value) (hx : a.eval x = .pointer (some ⟨g, 0, none⟩)) (hy : a.eval y = .agg cells.toArray) (hL : Lv w g cs)
    (hi : (Tryd.prog.info? ty).map (·.size) = some n) (hn : cs.length = n) (hl : cells.length = n) (h1 : cells.toArray.all (·.oneCell') = true)
    (h : ∀ w', Lv w' g cells → Kp (fun b => b = g) w w' → wpList Tryd.prog ops Q rest (a.put op.dst undef) w') : wpList Tryd.prog ops Q (op :: rest) a w := by
  refine wpList_store_lv hgd ty x y ho g 0 cs cells.toArray hL hx hy (by rw [hi, List.size_toArray, hl]) (by rw [List.size_toArray, hl, hn]; omega) h1 (fun w' hL' k => h w' ?_ k)
  have e : cs.take 0 ++ cells.toArray.toList ++ cs.drop (0 + cells.toArray.size) = cells := by
    rw [List.size_toArray, hl, Nat.zero_add, ← hn]
    simp
  rw [e] at hL'
  exact hL'
theorem wpList_store_sub {ops : Array Oper} {rest : List Oper} {op : Oper} {a : Act} {w : World} {Q : Exit → Act → World → Prop} (hgd : op.guard = none) (ty : TypeId) (x y : Operand) (ho : op.op = .store ty x y)
    (n g o : Nat) (cs cells cs' : List Value) (hx : a.eval x = .pointer (some ⟨g, o, none⟩)) (hy : a.eval y = .agg cells.toArray) (hL : Lv w g cs)
    (hi : (Tryd.prog.info? ty).map (·.size) = some n) (hl : cells.length = n) (hle : o + n ≤ cs.length) (h1 : cells.toArray.all (·.oneCell') = true) (he : cs.take o ++ cells ++ cs.drop (o + n) = cs')
    (h : ∀ w', Lv w' g cs' → Kp (fun b => b = g) w w' → wpList Tryd.prog ops Q rest (a.put op.dst undef) w') : wpList Tryd.prog ops Q (op :: rest) a w := by
  refine wpList_store_lv hgd ty x y ho g o cs cells.toArray hL hx hy (by rw [hi, List.size_toArray, hl]) (by rw [List.size_toArray, hl]; exact hle) h1 (fun w' hL' k => h w' ?_ k)
  rw [List.size_toArray, hl] at hL'
  rw [← he]
  exact hL'
theorem wpList_load_all {ops : Array Oper} {rest : List Oper} {op : Oper} {a : Act} {w : World} {Q : Exit → Act → World → Prop} (hgd : op.guard = none) (ty : TypeId) (x : Operand) (ho : op.op = .load ty x)
    (n g : Nat) (cs : List Value) (hx : a.eval x = .pointer (some ⟨g, 0, none⟩)) (hL : Lv w g cs) (hd : ∃ d, Tryd.prog.underlying ty = some d ∧ d.isRow = true)
    (hi : (Tryd.prog.info? ty).map (·.size) = some n) (hn : cs.length = n)
    (h : wpList Tryd.prog ops Q rest (a.put op.dst (.agg cs.toArray)) w) : wpList Tryd.prog ops Q (op :: rest) a w := by
  obtain ⟨d, hd1, hd2⟩ := hd
  refine wpList_load_lv hgd ty x ho g 0 n cs d hL hx hd1 hd2 hi (by omega) ?_
  rw [List.drop_zero, ← hn, List.take_length]
  exact h
theorem Lv.load {u : World} {g : Nat} {cs : List Value} (h : Lv u g cs) {ty : TypeId} {n : Nat} (hd : ∃ d, Tryd.prog.underlying ty = some d ∧ d.isRow = true) (hi : (Tryd.prog.info? ty).map (·.size) = some n) (hn : cs.length = n) : (loadVar ty ⟨g, 0, none⟩).run Tryd.prog u = .ok (.agg cs.toArray) u := by
  obtain ⟨d, hd1, hd2⟩ := hd
  exact run_loadVar_mid u g 0 ty cs d h.r hd1 hd2 (by rw [hi, hn])
theorem Lv.set1 {w : World} {g : Nat} {cs : List Value} (h : Lv w g cs) (o : Nat) (v : Value) (ho : o < cs.length) : Lv (w.setCell ⟨g, o, none⟩ v) g (cs.take o ++ [v] ++ cs.drop (o + 1)) := h.set o [v] (by simp; omega)
theorem Lv.fz {u : World} {g : Nat} {cs : List Value} (h : Lv u g cs) {j : Nat} (hj : j < cs.length) : u.frozen? ⟨g, j, none⟩ = false := by
  have := (h.t j hj).2
  rwa [Nat.zero_add] at this
theorem res_cell {fn : Func} {t : Tmp} {ty : TypeId} (h : fn.results = #[.cell t ty]) (tmps : Array Value) (w : World) (g : Nat) (v : Value) (ht : tmps.getD t undef = .pointer (some ⟨g, 0, none⟩)) (hl : (loadVar ty ⟨g, 0, none⟩).run Tryd.prog w = .ok v w) :
    (results fn tmps).run Tryd.prog w = .ok v w := by
  have ht' : tmps[t]?.getD undef = .pointer (some ⟨g, 0, none⟩) := by simpa using ht
  simp [results, h, ht', asAddr, hl]
theorem res_cell_tmp {fn : Func} {t t2 : Tmp} {ty : TypeId} (h : fn.results = #[.cell t ty, .tmp t2]) (tmps : Array Value) (w : World) (g : Nat) (v : Value) (ht : tmps.getD t undef = .pointer (some ⟨g, 0, none⟩)) (hl : (loadVar ty ⟨g, 0, none⟩).run Tryd.prog w = .ok v w) :
    (results fn tmps).run Tryd.prog w = .ok (.tuple #[v, tmps.getD t2 undef]) w := by
  have ht' : tmps[t]?.getD undef = .pointer (some ⟨g, 0, none⟩) := by simpa using ht
  simp [results, h, ht', asAddr, hl]
end Go.Proofs.YtoepemgflbmlcaaDoor

/- Packets in a map by their numbers; whatever values they have. -/
namespace Go.Proofs.YtoepemgflbmlcaaDoor
set_option linter.unusedVariables false
open Go.RowKit Go.Deep Go.Maps

/-- a value reads as itself -/
def idR (v : Value) : Option (DataW Value × List MemPlace) := some (.held v, [])
abbrev ik (i : Nat) : Lit := .int .i64 (i : Int)
theorem ik_inj {i j : Nat} (h : ik i = ik j) : i = j := by injection h with _ h; exact Int.natCast_inj.1 h
theorem ik_lit (i : Nat) : WideAt.IsKeyLit (ik i) := trivial
theorem intLaw : Keyed Tryd.prog 3 := int_keyed Tryd.underlying3
/-- what is there under a number -/
def Tz (T : Nat → Option Value) (id : Int) : Option Value := if 0 ≤ id then T id.toNat else none
theorem Tz_nat (T : Nat → Option Value) (i : Nat) : Tz T (i : Int) = T i := by unfold Tz; rw [if_pos (by omega), Int.toNat_natCast]

/-- what D says of keys below n: T, c of them -/
def Qd (D : DataW Value) (n c : Nat) (T : Nat → Option Value) : Prop :=
  (∀ i, i < n → (T i = none → Maps.has D (ik i) = false) ∧ ∀ v, T i = some v → Maps.has D (ik i) = true ∧ ∀ z, D.atKey (ik i) z = .held v) ∧ (∀ kl, Maps.has D kl = true → ∃ i, i < n ∧ kl = ik i) ∧ (∀ i, n ≤ i → T i = none) ∧ Maps.size D = c
/-- block m is a map of c values, under numbers below n -/
def Qm (w : World) (m q n c : Nat) (T : Nat → Option Value) : Prop := ∃ D, w.ownsMap Tryd.prog 3 idR m q D ∧ Qd D n c T
theorem Qm.lt {w : World} {m q n c : Nat} {T : Nat → Option Value} (h : Qm w m q n c T) : m < w.heap.size := by
  obtain ⟨D, h1, h2⟩ := h
  exact h1.lt
theorem Qm.keep {S : Nat → Prop} {w w' : World} {m q n c : Nat} {T : Nat → Option Value} (h : Qm w m q n c T) (k : Kp S w w') (hS : ¬ S m) : Qm w' m q n c T := by
  have hlt := h.lt
  obtain ⟨D, ⟨es, clock, hb, r⟩, h2⟩ := h
  exact ⟨D, ⟨es, clock, (k.block m hlt hS).trans hb, r⟩, h2⟩
theorem Qm.made (w : World) (n : Nat) : Qm (w.alloc (.map #[] 0)) w.heap.size 0 n 0 (fun _ => none) :=
  ⟨_, World.ownsMap_made w _ _ _, fun i _ => ⟨fun _ => rfl, fun v h => (by cases h)⟩, fun kl h => (by cases h), fun _ _ => rfl, rfl⟩
theorem Qd.put {D : DataW Value} {n c : Nat} {T : Nat → Option Value} {v : Value} (hT : Tidy D) (h : Qd D n c T) : Qd (D.put (ik n) (.held v)) (n + 1) (c + 1) (fun j => if j = n then some v else T j) := by
  have hM := hT.isMap
  obtain ⟨h1, h2, h3, h4⟩ := h
  have hno : Maps.has D (ik n) = false := by
    cases hh : Maps.has D (ik n) with
    | false => rfl
    | true =>
      obtain ⟨i, hi, e⟩ := h2 _ hh
      have := ik_inj e
      omega
  refine ⟨fun j hj => ?_, fun kl hk => ?_, fun j hj => ?_, ?_⟩
  · by_cases e : j = n
    · subst e
      simp only [if_true]
      exact ⟨fun h => (by cases h), fun u hu => (by cases hu; exact ⟨has_put_same hM (ik_lit _) _, fun z => atKey_put_same hM (ik_lit _) _ z⟩)⟩
    · have hne : ik j ≠ ik n := fun h => e (ik_inj h)
      simp only [if_neg e]
      refine ⟨fun h => by rw [has_put_other hne]; exact (h1 j (by omega)).1 h, fun u hu => ?_⟩
      obtain ⟨b, c⟩ := (h1 j (by omega)).2 u hu
      exact ⟨by rw [has_put_other hne]; exact b, fun z => by rw [atKey_put_other hne]; exact c z⟩
  · by_cases e : kl = ik n
    · exact ⟨n, by omega, e⟩
    · rw [has_put_other e] at hk
      obtain ⟨i, hi, e2⟩ := h2 kl hk
      exact ⟨i, by omega, e2⟩
  · show (if j = n then some v else T j) = none
    rw [if_neg (by omega)]
    exact h3 j (by omega)
  · rw [size_put hT, hno, h4]; rfl
theorem Qd.del {D : DataW Value} {n c i : Nat} {T : Nat → Option Value} {v : Value} (hT : Tidy D) (h : Qd D n c T) (hv : T i = some v) (hi : i < n) : Qd (D.del (ik i)) n (c - 1) (fun j => if j = i then none else T j) := by
  obtain ⟨h1, h2, h3, h4⟩ := h
  have hh := ((h1 i hi).2 v hv).1
  refine ⟨fun j hj => ?_, fun kl hk => ?_, fun j hj => ?_, ?_⟩
  · by_cases e : j = i
    · subst e
      simp only [if_true]
      exact ⟨fun _ => has_del_same, fun u hu => (by cases hu)⟩
    · have hne : ik j ≠ ik i := fun h => e (ik_inj h)
      simp only [if_neg e]
      refine ⟨fun h => by rw [has_del_other hne]; exact (h1 j hj).1 h, fun u hu => ?_⟩
      obtain ⟨b, c⟩ := (h1 j hj).2 u hu
      exact ⟨by rw [has_del_other hne]; exact b, fun z => by rw [atKey_del_other hne]; exact c z⟩
  · by_cases e : kl = ik i
    · rw [e, has_del_same] at hk; cases hk
    · rw [has_del_other e] at hk
      exact h2 kl hk
  · show (if j = i then none else T j) = none
    by_cases e : j = i
    · rw [if_pos e]
    · rw [if_neg e]; exact h3 j hj
  · have := size_del hT (k := ik i)
    rw [hh, h4] at this
    simp at this
    omega
theorem Qd.look {D : DataW Value} {n c : Nat} {T : Nat → Option Value} (h : Qd D n c T) (id : Int) (z : Value) : Maps.has D (.int .i64 id) = (Tz T id).isSome ∧ D.atKey (.int .i64 id) (.held z) = .held ((Tz T id).getD z) := by
  obtain ⟨h1, h2, h3, h4⟩ := h
  have absent : Maps.has D (.int .i64 id) = false → D.atKey (.int .i64 id) (.held z) = .held z := fun hh => atKey_of_not_has hh _
  unfold Tz
  by_cases h0 : 0 ≤ id
  · rw [if_pos h0]
    obtain ⟨i, rfl⟩ : ∃ i : Nat, id = (i : Int) := ⟨id.toNat, by omega⟩
    rw [Int.toNat_natCast]
    by_cases hi : i < n
    · cases hT : T i with
      | none => exact ⟨(h1 i hi).1 hT, absent ((h1 i hi).1 hT)⟩
      | some v => exact ⟨((h1 i hi).2 v hT).1, ((h1 i hi).2 v hT).2 _⟩
    · have hT := h3 i (by omega)
      have hh : Maps.has D (.int .i64 (i : Int)) = false := by
        cases hh : Maps.has D (.int .i64 (i : Int)) with
        | false => rfl
        | true =>
          obtain ⟨j, hj, e⟩ := h2 _ hh
          have := ik_inj e
          omega
      rw [hT]
      exact ⟨hh, absent hh⟩
  · rw [if_neg h0]
    have hh : Maps.has D (.int .i64 id) = false := by
      cases hh : Maps.has D (.int .i64 id) with
      | false => rfl
      | true =>
        obtain ⟨j, hj, e⟩ := h2 _ hh
        injection e with _ e
        omega
    exact ⟨hh, absent hh⟩
end Go.Proofs.YtoepemgflbmlcaaDoor
