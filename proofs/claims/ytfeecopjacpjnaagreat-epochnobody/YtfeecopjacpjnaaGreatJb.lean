/- Maps by pairs of numbers, of whatever values. -/
import Derived.Test.YtfeecopjacpjnaaGreatQg
import Derived.WideKeyEntry
import Derived.DeepKeys4
import Derived.MapViews
namespace Go.Proofs.YtfeecopjacpjnaaGreat
set_option linter.unusedVariables false
open Go.RowKit Go.Deep Go.Maps

abbrev pv2 (a b : Int) : Value := .agg #[.int .i64 a, .int .i64 b]
/-- what a pair reads as -/
def pk2 (a b : Int) : Lit := .string (keyBytes [.int .i64 a, .int .i64 b])
def wf2 (a b : Int) : Prop := (Lit.int .i64 a).wf = true ∧ (Lit.int .i64 b).wf = true
theorem laidOutJ : laidOutB Tryz.prog = true := by kernel_rfl
theorem wideP2 : (match Tryz.prog.underlying 84 with | some (.array _ _) | some (.struct _) => true | _ => false) = true := by rw [Tryz.underlying84]
set_option maxRecDepth 100000 in
theorem p2Key : WideMaps.KeyLaw Tryz.prog 84 := deep_law_laid laidOutJ (m := 2) (by omega) (of_decide_eq_true (by kernel_rfl)) (by kernel_rfl) wideP2
theorem p2Law : Keyed Tryz.prog 84 := Keyed.of_law p2Key
theorem p2t : ∃ m, Tryz.prog.types.size = m + 1 := ⟨Tryz.prog.types.size - 1, by kernel_rfl⟩
theorem p2c : Tryz.prog.cellsOf 84 = 2 ∧ Tryz.prog.cellsOf 3 = 1 := ⟨by kernel_rfl, by kernel_rfl⟩
theorem p2k : Tryz.prog.keyType 84 = true := by kernel_rfl
theorem p2f (a b : Int) : (pv2 a b).formed Tryz.prog 84 = true := by
  simp [Value.formed, Tryz.underlying84]; kernel_rfl
set_option maxRecDepth 100000 in
theorem pk2_key {a b : Int} (h : wf2 a b) : keyOf Tryz.prog 84 (pv2 a b) = some (pk2 a b) := by
  obtain ⟨m, hm⟩ := p2t
  have l1 : ∀ c : Int, (Lit.int .i64 c).wf = true → Tryz.prog.keyLits (m + 1) 3 [.int .i64 c] = some [.int .i64 c] := fun c hc => by
    simp [Program.keyLits, Tryz.underlying3, hc]
  have l2 : Tryz.prog.keyLits (Tryz.prog.types.size + 1) 84 [.int .i64 a, .int .i64 b] = some [.int .i64 a, .int .i64 b] := by
    rw [hm]
    unfold Program.keyLits
    simp only [Tryz.underlying84, p2c.1, p2c.2]
    simp [List.range_succ, l1 a h.1, l1 b h.2]
  unfold keyOf
  simp only [Tryz.underlying84, p2k, p2f, Bool.and_self, if_true]
  show ((Tryz.prog.keyLits (Tryz.prog.types.size + 1) 84 [.int .i64 a, .int .i64 b]).map fun ls => Lit.string (keyBytes ls)) = _
  rw [l2]
  rfl
theorem pk2_inj {a b c d : Int} (h : wf2 a b) (h' : wf2 c d) (e : pk2 a b = pk2 c d) : a = c ∧ b = d := by
  have h1 := pk2_key h
  have h2 := pk2_key h'
  rw [e] at h1
  have := p2Law.inj h1 h2
  simp at this
  exact this
theorem pk2_lit {a b : Int} (h : wf2 a b) : WideAt.IsKeyLit (pk2 a b) := p2Law.key (pk2_key h)

/-- what D has under pairs: T, c of them -/
structure Pd (D : DataW Value) (c : Nat) (T : Int → Int → Option Value) : Prop where
  no : ∀ a b, wf2 a b → T a b = none → Maps.has D (pk2 a b) = false
  yes : ∀ a b, wf2 a b → ∀ v, T a b = some v → Maps.has D (pk2 a b) = true ∧ ∀ y, D.atKey (pk2 a b) y = .held v
  size : Maps.size D = c
  keys : ∀ kl, Maps.has D kl = true → ∃ a b, wf2 a b ∧ kl = pk2 a b
/-- block m is a map of c values by pairs -/
def Px (w : World) (m c : Nat) (T : Int → Int → Option Value) : Prop := ∃ D, w.ownsMap Tryz.prog 84 idR m c D ∧ Pd D c T
theorem Px.lt {w : World} {m c : Nat} {T : Int → Int → Option Value} (h : Px w m c T) : m < w.heap.size := by
  obtain ⟨D, h1, h2⟩ := h
  exact h1.lt
theorem Px.keep {S : Nat → Prop} {w w' : World} {m c : Nat} {T : Int → Int → Option Value} (h : Px w m c T) (k : Kp S w w') (hS : ¬ S m) : Px w' m c T := by
  have hlt := h.lt
  obtain ⟨D, ⟨es, clock, hb, r⟩, h2⟩ := h
  exact ⟨D, ⟨es, clock, (k.block m hlt hS).trans hb, r⟩, h2⟩
theorem Px.of_block {w w' : World} {m c : Nat} {T : Int → Int → Option Value} (h : Px w m c T) (e : w'.heap[m]? = w.heap[m]?) : Px w' m c T := by
  obtain ⟨D, ⟨es, clock, hb, r⟩, h2⟩ := h
  exact ⟨D, ⟨es, clock, e.trans hb, r⟩, h2⟩
theorem Px.made (w : World) : Px (w.alloc (.map #[] 0)) w.heap.size 0 (fun _ _ => none) :=
  ⟨_, World.ownsMap_made w _ _ _, fun _ _ _ _ => rfl, fun _ _ _ _ h => (by cases h), rfl, fun _ h => (by cases h)⟩
theorem Px.congr {w : World} {m c : Nat} {T T' : Int → Int → Option Value} (h : Px w m c T) (e : ∀ a b, wf2 a b → T a b = T' a b) : Px w m c T' := by
  obtain ⟨D, h1, h2⟩ := h
  exact ⟨D, h1, fun a b hw ht => h2.no a b hw ((e a b hw).trans ht), fun a b hw v ht => h2.yes a b hw v ((e a b hw).trans ht), h2.size, h2.keys⟩
theorem own_size {w : World} {k : TypeId} {m q : Nat} {D : DataW Value} (h : w.ownsMap Tryz.prog k idR m q D) : w.ownsMap Tryz.prog k idR m (Maps.size D) D := by
  obtain ⟨es, clock, hb, F, hs, hD⟩ := h
  refine ⟨es, clock, hb, F, ?_, hD⟩
  rw [hD]
  show es.size ≤ List.length _
  rw [length_sorted]
  simp
/-- T with v at a, b -/
def upd2 (T : Int → Int → Option Value) (a b : Int) (v : Value) : Int → Int → Option Value := fun x y => if x = a ∧ y = b then some v else T x y
def del2 (T : Int → Int → Option Value) (a b : Int) : Int → Int → Option Value := fun x y => if x = a ∧ y = b then none else T x y
theorem Pd.put {D : DataW Value} {c : Nat} {T : Int → Int → Option Value} {v : Value} {a b : Int} (hT : Tidy D) (h : Pd D c T) (hw : wf2 a b) : Pd (D.put (pk2 a b) (.held v)) (c + (if (T a b).isSome then 0 else 1)) (upd2 T a b v) := by
  have hM := hT.isMap
  have hzz := pk2_lit hw
  refine ⟨fun x y hxy hx => ?_, fun x y hxy u hx => ?_, ?_, fun kl hk => ?_⟩
  · unfold upd2 at hx
    by_cases e : x = a ∧ y = b
    · rw [if_pos e] at hx; cases hx
    · rw [if_neg e] at hx
      rw [has_put_other (fun h => e (pk2_inj hxy hw h))]
      exact h.no x y hxy hx
  · unfold upd2 at hx
    by_cases e : x = a ∧ y = b
    · rw [if_pos e] at hx
      injection hx with hx
      subst hx
      obtain ⟨rfl, rfl⟩ := e
      exact ⟨has_put_same hM hzz _, fun y => atKey_put_same hM hzz _ y⟩
    · rw [if_neg e] at hx
      have hne : pk2 x y ≠ pk2 a b := fun h => e (pk2_inj hxy hw h)
      obtain ⟨b, c⟩ := h.yes x y hxy u hx
      exact ⟨by rw [has_put_other hne]; exact b, fun y => by rw [atKey_put_other hne]; exact c y⟩
  · rw [size_put hT, h.size]
    cases hz : T a b with
    | none => rw [h.no a b hw hz]; rfl
    | some u => rw [(h.yes a b hw u hz).1]; rfl
  · by_cases e : kl = pk2 a b
    · exact ⟨a, b, hw, e⟩
    · rw [has_put_other e] at hk
      exact h.keys kl hk
theorem Pd.del {D : DataW Value} {c : Nat} {T : Int → Int → Option Value} {a b : Int} (hT : Tidy D) (h : Pd D c T) (hw : wf2 a b) : Pd (D.del (pk2 a b)) (c - (if (T a b).isSome then 1 else 0)) (del2 T a b) := by
  refine ⟨fun x y hxy hx => ?_, fun x y hxy u hx => ?_, ?_, fun kl hk => ?_⟩
  · unfold del2 at hx
    by_cases e : x = a ∧ y = b
    · obtain ⟨rfl, rfl⟩ := e
      exact has_del_same
    · rw [if_neg e] at hx
      rw [has_del_other (fun h => e (pk2_inj hxy hw h))]
      exact h.no x y hxy hx
  · unfold del2 at hx
    by_cases e : x = a ∧ y = b
    · rw [if_pos e] at hx; cases hx
    · rw [if_neg e] at hx
      have hne : pk2 x y ≠ pk2 a b := fun h => e (pk2_inj hxy hw h)
      obtain ⟨b, c⟩ := h.yes x y hxy u hx
      exact ⟨by rw [has_del_other hne]; exact b, fun y => by rw [atKey_del_other hne]; exact c y⟩
  · have := size_del hT (k := pk2 a b)
    rw [h.size] at this
    cases hz : T a b with
    | none => rw [h.no a b hw hz] at this; simpa using this
    | some u => rw [(h.yes a b hw u hz).1] at this; simp at this ⊢; omega
  · by_cases e : kl = pk2 a b
    · rw [e, has_del_same] at hk; cases hk
    · rw [has_del_other e] at hk
      exact h.keys kl hk
theorem Pd.look {D : DataW Value} {c : Nat} {T : Int → Int → Option Value} (h : Pd D c T) {a b : Int} (hw : wf2 a b) (y : Value) : Maps.has D (pk2 a b) = (T a b).isSome ∧ D.atKey (pk2 a b) (.held y) = .held ((T a b).getD y) := by
  cases hz : T a b with
  | none => exact ⟨h.no a b hw hz, atKey_of_not_has (h.no a b hw hz) _⟩
  | some v => exact ⟨(h.yes a b hw v hz).1, (h.yes a b hw v hz).2 _⟩

section
variable {MT ET : TypeId} {zv : Value}
set_option maxRecDepth 100000 in
theorem look_px_ok {w : World} {m c : Nat} {T : Int → Int → Option Value} (hu : Tryz.prog.underlying MT = some (.map 84 ET)) (hz : ∀ w, (zeroValue ET).run Tryz.prog w = .ok zv w) (h : Px w m c T) {a b : Int} (hw : wf2 a b) : (Instr.lookup MT (.map (some m)) (pv2 a b) true).run Tryz.prog w = .ok (.tuple #[(T a b).getD zv, .bool (T a b).isSome]) w := by
  obtain ⟨D, h1, h2⟩ := h
  obtain ⟨e1, e2⟩ := h2.look hw zv
  obtain ⟨v, ps, hrun, hv⟩ := h1.look_ok p2Law hu (hz w) (zd := .held zv) (zp := []) rfl (pk2_key hw)
  rw [e2] at hv
  injection hv with hv
  injection hv with hv _
  injection hv with hv
  rw [hrun, hv, e1]
theorem put_px {w : World} {m c : Nat} {T : Int → Int → Option Value} (hu : Tryz.prog.underlying MT = some (.map 84 ET)) (h : Px w m c T) (hq : c < 4611686018427387904) {a b : Int} (hw : wf2 a b) (u : Value) :
    ∃ w', (Instr.mapUpdate MT (.map (some m)) (pv2 a b) u).run Tryz.prog w = .ok () w' ∧ Px w' m (c + (if (T a b).isSome then 0 else 1)) (upd2 T a b u) ∧ Kp (fun x => x = m) w w' := by
  obtain ⟨D, h1, h2⟩ := h
  obtain ⟨w', hr, r1, r2⟩ := h1.update p2Law hu (by unfold maxLen; omega) (pk2_key hw) (d := .held u) (ps := []) (val := u) rfl
  have h3 := h2.put (v := u) (h1.tidy p2Law) hw
  exact ⟨w', hr, ⟨_, by rw [← h3.size]; exact own_size r1, h3⟩, (grownBy_kp r2).mono (fun b _ e => by cases e; rfl)⟩
theorem wpList_put_px {ops : Array Oper} {rest : List Oper} {o : Oper} {ac : Act} {w : World} {Q : Exit → Act → World → Prop} (hg : o.guard = none) (mm x v : Operand) (hop : o.op = Op.mapUpdate MT mm x v)
    (hu : Tryz.prog.underlying MT = some (.map 84 ET))
    (m c : Nat) (T : Int → Int → Option Value) (h : Px w m c T) (hm : ac.eval mm = .map (some m)) (hq : c < 4611686018427387904) {a b : Int} (hw : wf2 a b) (hx : ac.eval x = pv2 a b) (u : Value) (hv : ac.eval v = u)
    (hK : ∀ w', Px w' m (c + (if (T a b).isSome then 0 else 1)) (upd2 T a b u) → Kp (fun x => x = m) w w' → wpList Tryz.prog ops Q rest (ac.put o.dst undef) w') : wpList Tryz.prog ops Q (o :: rest) ac w := by
  obtain ⟨D, h1, h2⟩ := h
  refine wpList_mapUpdate_own _ hg mm x v MT hop 84 ET p2Law hu _ m c D hm h1 (by unfold maxLen; omega) _ _ _ hx hv (pk2_key hw) (.held u) [] rfl ?_
  intro w' h3 hg'
  have h4 := h2.put (v := u) (h1.tidy p2Law) hw
  exact hK w' ⟨_, by rw [← h4.size]; exact own_size h3, h4⟩ ((grownBy_kp hg').mono (fun b _ e => by cases e; rfl))
theorem wpList_del_px {ops : Array Oper} {rest : List Oper} {o : Oper} {ac : Act} {w : World} {Q : Exit → Act → World → Prop} (hg : o.guard = none) (mm x : Operand) (hop : o.op = Op.call { callee := Callee.builtin Builtin.delete, args := #[mm, x], argTypes := #[MT, 84] })
    (hu : Tryz.prog.underlying MT = some (.map 84 ET))
    (m c : Nat) (T : Int → Int → Option Value) (h : Px w m c T) (hm : ac.eval mm = .map (some m)) {a b : Int} (hw : wf2 a b) (hx : ac.eval x = pv2 a b)
    (hK : ∀ w', Px w' m (c - (if (T a b).isSome then 1 else 0)) (del2 T a b) → Kp (fun x => x = m) w w' → wpList Tryz.prog ops Q rest (ac.put o.dst (.tuple #[])) w') : wpList Tryz.prog ops Q (o :: rest) ac w := by
  obtain ⟨D, h1, h2⟩ := h
  refine wpList_delete_own _ hg mm x MT 84 hop ET p2Law hu _ m c D hm h1 _ _ hx (pk2_key hw) ?_
  intro w' h3 hg'
  have h4 := h2.del (h1.tidy p2Law) hw
  exact hK w' ⟨_, by rw [← h4.size]; exact own_size h3, h4⟩ ((grownBy_kp hg'.grown).mono (fun b _ e => by cases e; rfl))
theorem kp_setBlk (w : World) (m : Nat) (o : Obj) : Kp (fun x => x = m) w (ChangeMaps.setBlock w m o) :=
  ⟨rfl, rfl, rfl, by simp [ChangeMaps.setBlock], fun k _ hk => by
    show (w.heap.setIfInBounds m o)[k]? = _
    rw [Array.getElem?_setIfInBounds_ne (fun e => hk e.symm)]⟩
set_option maxRecDepth 100000 in
/-- 'm[k]' is there, or is laid as zero; what is stored at it then is the map's -/
theorem entry_px {w : World} {m c : Nat} {T : Int → Int → Option Value} (hu : Tryz.prog.underlying MT = some (.map 84 ET)) (hz : ∀ w, (zeroValue ET).run Tryz.prog w = .ok zv w) (h : Px w m c T) (hq : c < 4611686018427387904) {a b : Int} (hw : wf2 a b) :
    ∃ (v0 : Value) (st : Nat) (w1 : World), (Instr.mapEntry MT (.map (some m)) (pv2 a b)).run Tryz.prog w = .ok (.tuple #[v0, goInt st]) w1 ∧ Kp (fun x => x = m) w w1 ∧
      ∀ w2 : World, w2.heap[m]? = w1.heap[m]? → ∀ u : Value, ∃ w3, (Instr.entryStore MT (.map (some m)) (goInt st) u).run Tryz.prog w2 = .ok () w3 ∧ Kp (fun x => x = m) w2 w3 ∧ Px w3 m (c + (if (T a b).isSome then 0 else 1)) (upd2 T a b u) := by
  have hpx := h
  have hlt := h.lt
  obtain ⟨D, hown, h2⟩ := h
  have hown' := hown
  obtain ⟨es, clock, hb, F, hs, hD⟩ := hown'
  obtain ⟨v0, st, es1, clock1, hrun, hv, hst⟩ := WideElems.entry_then_store p2Key hu hz hb F (pk2_key hw)
  have hb1 : (ChangeMaps.setBlock w m (.map es1 clock1)).heap[m]? = some (.map es1 clock1) := by
    show (w.heap.setIfInBounds m _)[m]? = _
    rw [Array.getElem?_setIfInBounds_self_of_lt hlt]
  refine ⟨v0, st, _, hrun, kp_setBlk _ _ _, fun w2 hw2 u => ?_⟩
  obtain ⟨es', clock', hr1, hr2⟩ := hst w2 u (hw2.trans hb1)
  obtain ⟨w', hr3, hp3, _⟩ := put_px hu hpx hq hw u
  rw [hr3] at hr2
  injection hr2 with _ hr2
  refine ⟨_, hr1, kp_setBlk _ _ _, hp3.of_block ?_⟩
  rw [hr2]
  show (w2.heap.setIfInBounds m _)[m]? = (w.heap.setIfInBounds m _)[m]?
  have hlt2 : m < w2.heap.size := by
    have := hw2.trans hb1
    exact (Array.getElem?_eq_some_iff.1 this).1
  rw [Array.getElem?_setIfInBounds_self_of_lt hlt, Array.getElem?_setIfInBounds_self_of_lt hlt2]
end

end Go.Proofs.YtfeecopjacpjnaaGreat
