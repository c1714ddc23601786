/- Maps by whatever numbers. -/
import Derived.Test.YtippipeebkkghaaGreatDoorQg
namespace Go.Proofs.YtippipeebkkghaaGreatDoor
set_option linter.unusedVariables false
open Go.RowKit Go.Deep Go.Maps

/-- what D has under numbers: T, c of them -/
structure Md (D : DataW Value) (c : Nat) (T : Int → Option Value) : Prop where
  no : ∀ z, T z = none → Maps.has D (.int .i64 z) = false
  yes : ∀ z v, T z = some v → Maps.has D (.int .i64 z) = true ∧ ∀ y, D.atKey (.int .i64 z) y = .held v
  size : Maps.size D = c
/-- block m is a map of c values by numbers -/
def Mm (w : World) (m q c : Nat) (T : Int → Option Value) : Prop := ∃ D, w.ownsMap Tryz.prog 3 idR m q D ∧ Md D c T
theorem Mm.lt {w : World} {m q c : Nat} {T : Int → Option Value} (h : Mm w m q c T) : m < w.heap.size := by
  obtain ⟨D, h1, h2⟩ := h
  exact h1.lt
theorem Mm.keep {S : Nat → Prop} {w w' : World} {m q c : Nat} {T : Int → Option Value} (h : Mm w m q c T) (k : Kp S w w') (hS : ¬ S m) : Mm w' m q c T := by
  have hlt := h.lt
  obtain ⟨D, ⟨es, clock, hb, r⟩, h2⟩ := h
  exact ⟨D, ⟨es, clock, (k.block m hlt hS).trans hb, r⟩, h2⟩
theorem Mm.made (w : World) : Mm (w.alloc (.map #[] 0)) w.heap.size 0 0 (fun _ => none) :=
  ⟨_, World.ownsMap_made w _ _ _, fun _ _ => rfl, fun _ _ h => (by cases h), rfl⟩
/-- T with v at z -/
def upd (T : Int → Option Value) (z : Int) (v : Value) : Int → Option Value := fun x => if x = z then some v else T x
theorem Md.put {D : DataW Value} {c : Nat} {T : Int → Option Value} {v : Value} {z : Int} (hT : Tidy D) (h : Md D c T) : Md (D.put (.int .i64 z) (.held v)) (c + (if (T z).isSome then 0 else 1)) (upd T z v) := by
  have hM := hT.isMap
  have hzz : WideAt.IsKeyLit (Lit.int .i64 z) := trivial
  refine ⟨fun x hx => ?_, fun x u hx => ?_, ?_⟩
  · unfold upd at hx
    by_cases e : x = z
    · rw [if_pos e] at hx; cases hx
    · rw [if_neg e] at hx
      rw [has_put_other (fun h => e (by injection h))]
      exact h.no x hx
  · unfold upd at hx
    by_cases e : x = z
    · rw [if_pos e] at hx
      injection hx with hx
      subst hx e
      exact ⟨has_put_same hM hzz _, fun y => atKey_put_same hM hzz _ y⟩
    · rw [if_neg e] at hx
      have hne : Lit.int .i64 x ≠ Lit.int .i64 z := fun h => e (by injection h)
      obtain ⟨b, c⟩ := h.yes x u hx
      exact ⟨by rw [has_put_other hne]; exact b, fun y => by rw [atKey_put_other hne]; exact c y⟩
  · rw [size_put hT, h.size]
    cases hz : T z with
    | none => rw [h.no z hz]; rfl
    | some u => rw [(h.yes z u hz).1]; rfl
theorem Md.look {D : DataW Value} {c : Nat} {T : Int → Option Value} (h : Md D c T) (z : Int) (y : Value) : Maps.has D (.int .i64 z) = (T z).isSome ∧ D.atKey (.int .i64 z) (.held y) = .held ((T z).getD y) := by
  cases hz : T z with
  | none => exact ⟨h.no z hz, atKey_of_not_has (h.no z hz) _⟩
  | some v => exact ⟨(h.yes z v hz).1, (h.yes z v hz).2 _⟩
theorem z_key (z : Int) (h : (Lit.int .i64 z).wf = true) : keyOf Tryz.prog 3 (.int .i64 z) = some (.int .i64 z) := keyOf_int_mk Tryz.underlying3 h
theorem z_wf {z : Int} (h : -9223372036854775808 ≤ z ∧ z ≤ 9223372036854775807) : (Lit.int .i64 z).wf = true := WalkArith.wf_i64 h

section
variable {MT ET : TypeId} {zv : Value}
theorem wpList_look_mm {ops : Array Oper} {rest : List Oper} {o : Oper} {a : Act} {w : World} {Q : Exit → Act → World → Prop} (hg : o.guard = none) (mm x : Operand) (hop : o.op = Op.lookup MT mm x true)
    (hu : Tryz.prog.underlying MT = some (.map 3 ET)) (hz : ∀ w, (zeroValue ET).run Tryz.prog w = .ok zv w)
    (m q c : Nat) (T : Int → Option Value) (h : Mm w m q c T) (hm : a.eval mm = .map (some m)) (z : Int) (hw : (Lit.int .i64 z).wf = true) (hx : a.eval x = .int .i64 z)
    (hK : wpList Tryz.prog ops Q rest (a.put o.dst (.tuple #[(T z).getD zv, .bool (T z).isSome])) w) : wpList Tryz.prog ops Q (o :: rest) a w := by
  obtain ⟨D, h1, h2⟩ := h
  obtain ⟨e1, e2⟩ := h2.look z zv
  refine wpList_lookup_own_ok _ hg mm x MT hop 3 ET intLaw hu idR (hz w) (.held zv) [] rfl m q D hm h1 _ _ hx (z_key z hw) ?_
  intro v ps hv
  rw [e2] at hv
  injection hv with hv
  injection hv with hv _
  injection hv with hv
  rw [hv, e1]
  exact hK
set_option maxRecDepth 100000 in
theorem look_mm_ok {w : World} {m q c : Nat} {T : Int → Option Value} (hu : Tryz.prog.underlying MT = some (.map 3 ET)) (hz : ∀ w, (zeroValue ET).run Tryz.prog w = .ok zv w) (h : Mm w m q c T) (z : Int) (hw : (Lit.int .i64 z).wf = true) : (Instr.lookup MT (.map (some m)) (.int .i64 z) true).run Tryz.prog w = .ok (.tuple #[(T z).getD zv, .bool (T z).isSome]) w := by
  obtain ⟨D, h1, h2⟩ := h
  obtain ⟨e1, e2⟩ := h2.look z zv
  obtain ⟨v, ps, hrun, hv⟩ := h1.look_ok intLaw hu (hz w) (zd := .held zv) (zp := []) rfl (z_key z hw)
  rw [e2] at hv
  injection hv with hv
  injection hv with hv _
  injection hv with hv
  rw [hrun, hv, e1]
set_option maxRecDepth 100000 in
theorem look_mm {w : World} {m q c : Nat} {T : Int → Option Value} (hu : Tryz.prog.underlying MT = some (.map 3 ET)) (hz : ∀ w, (zeroValue ET).run Tryz.prog w = .ok zv w) (h : Mm w m q c T) (z : Int) (hw : (Lit.int .i64 z).wf = true) : (Instr.lookup MT (.map (some m)) (.int .i64 z) false).run Tryz.prog w = .ok ((T z).getD zv) w := by
  obtain ⟨D, h1, h2⟩ := h
  obtain ⟨e1, e2⟩ := h2.look z zv
  obtain ⟨v, ps, hrun, hv⟩ := h1.lookup intLaw hu (hz w) (zd := .held zv) (zp := []) rfl (z_key z hw)
  rw [e2] at hv
  injection hv with hv
  injection hv with hv _
  injection hv with hv
  rw [hrun, hv]
theorem wpList_put_mm {ops : Array Oper} {rest : List Oper} {o : Oper} {a : Act} {w : World} {Q : Exit → Act → World → Prop} (hg : o.guard = none) (mm x v : Operand) (hop : o.op = Op.mapUpdate MT mm x v)
    (hu : Tryz.prog.underlying MT = some (.map 3 ET))
    (m q c : Nat) (T : Int → Option Value) (h : Mm w m q c T) (hm : a.eval mm = .map (some m)) (hq : q < 4611686018427387904) (z : Int) (hw : (Lit.int .i64 z).wf = true) (hx : a.eval x = .int .i64 z) (u : Value) (hv : a.eval v = u)
    (hK : ∀ w', Mm w' m (q + 1) (c + (if (T z).isSome then 0 else 1)) (upd T z u) → Kp (fun x => x = m) w w' → wpList Tryz.prog ops Q rest (a.put o.dst undef) w') : wpList Tryz.prog ops Q (o :: rest) a w := by
  obtain ⟨D, h1, h2⟩ := h
  refine wpList_mapUpdate_own _ hg mm x v MT hop 3 ET intLaw hu _ m q D hm h1 (by unfold maxLen; omega) _ _ _ hx hv (z_key _ hw) (.held u) [] rfl ?_
  intro w' h3 hg'
  exact hK w' ⟨_, h3, h2.put (h1.tidy intLaw)⟩ ((grownBy_kp hg').mono (fun b _ e => by cases e; rfl))
theorem len_mm {w : World} {m q c : Nat} {T : Int → Option Value} (hu : Tryz.prog.underlying MT = some (.map 3 ET)) (h : Mm w m q c T) (ty : TypeId) : (Builtin.len_ #[MT] ty #[.map (some m)]).run Tryz.prog w = .ok (.int .i64 (c : Int)) w := by
  obtain ⟨D, h1, h2⟩ := h
  rw [h1.len hu ty, h2.size]
end

/-- a list of numbers, as a slice, in blocks of which Z holds -/
def Ni (w : World) (Z : Nat → Prop) (zs : List Int) (nv : Value) : Prop := ∃ p cap, nv = .slice p zs.length cap ∧ Fl w Z p (zs.map encI) ∧ zs.length * 8 ≤ 140737488355328
theorem Ni.keep {S Z : Nat → Prop} {w w' : World} {zs : List Int} {nv : Value} (h : Ni w Z zs nv) (k : Kp S w w') (hS : ∀ b, Z b → ¬ S b) : Ni w' Z zs nv := by
  obtain ⟨p, cap, e, hf, hn⟩ := h
  exact ⟨p, cap, e, hf.keep k hS, hn⟩
theorem Ni.mono {Z Z' : Nat → Prop} {w : World} {zs : List Int} {nv : Value} (h : Ni w Z zs nv) (hz : ∀ b, Z b → Z' b) : Ni w Z' zs nv := by
  obtain ⟨p, cap, e, hf, hn⟩ := h
  exact ⟨p, cap, e, hf.mono hz, hn⟩

end Go.Proofs.YtippipeebkkghaaGreatDoor
