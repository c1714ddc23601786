/- Maps by things (structs of three numbers), of whatever values (out of Jb). -/
import Derived.Test.YtippipeebkkghaaGreatDoorQs
import Derived.Maps.OwnSet
import Derived.Maps.OwnOps
import Derived.Maps.Views
import Derived.StillTailTactics
import Derived.WideKeyEntry
import Derived.DeepKeys4
import Derived.MapViews
namespace Go.Proofs.YtippipeebkkghaaGreatDoor
set_option linter.unusedVariables false
set_option linter.unusedSimpArgs false
open Go.RowKit Go.Deep Go.Maps

/-- a value that is kept as it is -/
def idK (v : Value) : Option (DataW Value × List MemPlace) := some (.held v, [])

structure K3 where
  (k n i : Int)
deriving DecidableEq
abbrev pv3 (a : K3) : Value := .agg #[.int .i64 a.k, .int .i64 a.n, .int .i64 a.i]
/-- what a thing reads as -/
def pk3 (a : K3) : Lit := .string (keyBytes [.int .i64 a.k, .int .i64 a.n, .int .i64 a.i])
def wf3 (a : K3) : Prop := (Lit.int .i64 a.k).wf = true ∧ (Lit.int .i64 a.n).wf = true ∧ (Lit.int .i64 a.i).wf = true
theorem laidOut3 : laidOutB Tryz.prog = true := by kernel_rfl
theorem wideP3 : (match Tryz.prog.underlying 120 with | some (.array _ _) | some (.struct _) => true | _ => false) = true := by rw [Tryz.underlying120]
set_option maxRecDepth 100000 in
theorem p3Key : WideMaps.KeyLaw Tryz.prog 120 := deep_law_laid laidOut3 (m := 2) (by omega) (of_decide_eq_true (by kernel_rfl)) (by kernel_rfl) wideP3
theorem p3Law : Keyed Tryz.prog 120 := Keyed.of_law p3Key
theorem p3t : ∃ m, Tryz.prog.types.size = m + 1 := ⟨Tryz.prog.types.size - 1, by kernel_rfl⟩
theorem p3c : Tryz.prog.cellsOf 120 = 3 ∧ Tryz.prog.cellsOf 3 = 1 := ⟨by kernel_rfl, by kernel_rfl⟩
theorem p3k : Tryz.prog.keyType 120 = true := by kernel_rfl
theorem p3f (a : K3) : (pv3 a).formed Tryz.prog 120 = true := by
  simp [Value.formed, Tryz.underlying120]; kernel_rfl
set_option maxRecDepth 100000 in
theorem pk3_key {a : K3} (h : wf3 a) : keyOf Tryz.prog 120 (pv3 a) = some (pk3 a) := by
  obtain ⟨m, hm⟩ := p3t
  have l1 : ∀ c : Int, (Lit.int .i64 c).wf = true → Tryz.prog.keyLits (m + 1) 3 [.int .i64 c] = some [.int .i64 c] := fun c hc => by
    simp [Program.keyLits, Tryz.underlying3, hc]
  have l2 : Tryz.prog.keyLits (Tryz.prog.types.size + 1) 120 [.int .i64 a.k, .int .i64 a.n, .int .i64 a.i] = some [.int .i64 a.k, .int .i64 a.n, .int .i64 a.i] := by
    rw [hm]
    unfold Program.keyLits
    simp only [Tryz.underlying120, p3c.1, p3c.2]
    simp [List.range_succ, l1 a.k h.1, l1 a.n h.2.1, l1 a.i h.2.2, p3c.2]
  unfold keyOf
  simp only [Tryz.underlying120, p3k, p3f, Bool.and_self, if_true]
  show ((Tryz.prog.keyLits (Tryz.prog.types.size + 1) 120 [.int .i64 a.k, .int .i64 a.n, .int .i64 a.i]).map fun ls => Lit.string (keyBytes ls)) = _
  rw [l2]
  rfl
theorem pk3_inj {a b : K3} (h : wf3 a) (h' : wf3 b) (e : pk3 a = pk3 b) : a = b := by
  have h1 := pk3_key h
  have h2 := pk3_key h'
  rw [e] at h1
  have := p3Law.inj h1 h2
  simp at this
  cases a
  cases b
  simpa using this
theorem pk3_lit {a : K3} (h : wf3 a) : WideAt.IsKeyLit (pk3 a) := p3Law.key (pk3_key h)

/-- what D has under pairs: T, c of them -/
structure Pd3 (D : DataW Value) (c : Nat) (T : K3 → Option Value) : Prop where
  no : ∀ a, wf3 a → T a = none → Maps.has D (pk3 a) = false
  yes : ∀ a, wf3 a → ∀ v, T a = some v → Maps.has D (pk3 a) = true ∧ ∀ y, D.atKey (pk3 a) y = .held v
  size : Maps.size D = c
  keys : ∀ kl, Maps.has D kl = true → ∃ a, wf3 a ∧ kl = pk3 a
/-- block m is a map of c values by pairs -/
def Px3 (w : World) (m c : Nat) (T : K3 → Option Value) : Prop := ∃ D, w.ownsMap Tryz.prog 120 idK m c D ∧ Pd3 D c T
theorem Px3.lt {w : World} {m c : Nat} {T : K3 → Option Value} (h : Px3 w m c T) : m < w.heap.size := by
  obtain ⟨D, h1, h2⟩ := h
  exact h1.lt
theorem Px3.keep {S : Nat → Prop} {w w' : World} {m c : Nat} {T : K3 → Option Value} (h : Px3 w m c T) (k : Kp S w w') (hS : ¬ S m) : Px3 w' m c T := by
  have hlt := h.lt
  obtain ⟨D, ⟨es, clock, hb, r⟩, h2⟩ := h
  exact ⟨D, ⟨es, clock, (k.block m hlt hS).trans hb, r⟩, h2⟩
theorem Px3.of_block {w w' : World} {m c : Nat} {T : K3 → Option Value} (h : Px3 w m c T) (e : w'.heap[m]? = w.heap[m]?) : Px3 w' m c T := by
  obtain ⟨D, ⟨es, clock, hb, r⟩, h2⟩ := h
  exact ⟨D, ⟨es, clock, e.trans hb, r⟩, h2⟩
theorem Px3.made (w : World) : Px3 (w.alloc (.map #[] 0)) w.heap.size 0 (fun _ => none) :=
  ⟨_, World.ownsMap_made w _ _ _, fun _ _ _ => rfl, fun _ _ _ h => (by cases h), rfl, fun _ h => (by cases h)⟩
theorem Px3.congr {w : World} {m c : Nat} {T T' : K3 → Option Value} (h : Px3 w m c T) (e : ∀ a, wf3 a → T a = T' a) : Px3 w m c T' := by
  obtain ⟨D, h1, h2⟩ := h
  exact ⟨D, h1, fun a hw ht => h2.no a hw ((e a hw).trans ht), fun a hw v ht => h2.yes a hw v ((e a hw).trans ht), h2.size, h2.keys⟩
theorem own_size3 {w : World} {k : TypeId} {m q : Nat} {D : DataW Value} (h : w.ownsMap Tryz.prog k idK m q D) : w.ownsMap Tryz.prog k idK m (Maps.size D) D := by
  obtain ⟨es, clock, hb, F, hs, hD⟩ := h
  refine ⟨es, clock, hb, F, ?_, hD⟩
  rw [hD]
  show es.size ≤ List.length _
  rw [length_sorted]
  simp
/-- T with v at a, b -/
def upd3 (T : K3 → Option Value) (a : K3) (v : Value) : K3 → Option Value := fun x => if x = a then some v else T x
def del3 (T : K3 → Option Value) (a : K3) : K3 → Option Value := fun x => if x = a then none else T x
theorem Pd3.put {D : DataW Value} {c : Nat} {T : K3 → Option Value} {v : Value} {a : K3} (hT : Tidy D) (h : Pd3 D c T) (hw : wf3 a) : Pd3 (D.put (pk3 a) (.held v)) (c + (if (T a).isSome then 0 else 1)) (upd3 T a v) := by
  have hM := hT.isMap
  have hzz := pk3_lit hw
  refine ⟨fun x hxy hx => ?_, fun x hxy u hx => ?_, ?_, fun kl hk => ?_⟩
  · unfold upd3 at hx
    by_cases e : x = a
    · rw [if_pos e] at hx; cases hx
    · rw [if_neg e] at hx
      rw [has_put_other (fun h => e (pk3_inj hxy hw h))]
      exact h.no x hxy hx
  · unfold upd3 at hx
    by_cases e : x = a
    · rw [if_pos e] at hx
      injection hx with hx
      subst hx
      subst e
      exact ⟨has_put_same hM hzz _, fun y => atKey_put_same hM hzz _ y⟩
    · rw [if_neg e] at hx
      have hne : pk3 x ≠ pk3 a := fun h => e (pk3_inj hxy hw h)
      obtain ⟨b, c⟩ := h.yes x hxy u hx
      exact ⟨by rw [has_put_other hne]; exact b, fun y => by rw [atKey_put_other hne]; exact c y⟩
  · rw [size_put hT, h.size]
    cases hz : T a with
    | none => rw [h.no a hw hz]; rfl
    | some u => rw [(h.yes a hw u hz).1]; rfl
  · by_cases e : kl = pk3 a
    · exact ⟨a, hw, e⟩
    · rw [has_put_other e] at hk
      exact h.keys kl hk
theorem Pd3.del {D : DataW Value} {c : Nat} {T : K3 → Option Value} {a : K3} (hT : Tidy D) (h : Pd3 D c T) (hw : wf3 a) : Pd3 (D.del (pk3 a)) (c - (if (T a).isSome then 1 else 0)) (del3 T a) := by
  refine ⟨fun x hxy hx => ?_, fun x hxy u hx => ?_, ?_, fun kl hk => ?_⟩
  · unfold del3 at hx
    by_cases e : x = a
    · subst e
      exact has_del_same
    · rw [if_neg e] at hx
      rw [has_del_other (fun h => e (pk3_inj hxy hw h))]
      exact h.no x hxy hx
  · unfold del3 at hx
    by_cases e : x = a
    · rw [if_pos e] at hx; cases hx
    · rw [if_neg e] at hx
      have hne : pk3 x ≠ pk3 a := fun h => e (pk3_inj hxy hw h)
      obtain ⟨b, c⟩ := h.yes x hxy u hx
      exact ⟨by rw [has_del_other hne]; exact b, fun y => by rw [atKey_del_other hne]; exact c y⟩
  · have := size_del hT (k := pk3 a)
    rw [h.size] at this
    cases hz : T a with
    | none => rw [h.no a hw hz] at this; simpa using this
    | some u => rw [(h.yes a hw u hz).1] at this; simp at this ⊢; omega
  · by_cases e : kl = pk3 a
    · rw [e, has_del_same] at hk; cases hk
    · rw [has_del_other e] at hk
      exact h.keys kl hk
theorem Pd3.look {D : DataW Value} {c : Nat} {T : K3 → Option Value} (h : Pd3 D c T) {a : K3} (hw : wf3 a) (y : Value) : Maps.has D (pk3 a) = (T a).isSome ∧ D.atKey (pk3 a) (.held y) = .held ((T a).getD y) := by
  cases hz : T a with
  | none => exact ⟨h.no a hw hz, atKey_of_not_has (h.no a hw hz) _⟩
  | some v => exact ⟨(h.yes a hw v hz).1, (h.yes a hw v hz).2 _⟩

section
variable {MT ET : TypeId} {zv : Value}
set_option maxRecDepth 100000 in
theorem look_px3_ok {w : World} {m c : Nat} {T : K3 → Option Value} (hu : Tryz.prog.underlying MT = some (.map 120 ET)) (hz : ∀ w, (zeroValue ET).run Tryz.prog w = .ok zv w) (h : Px3 w m c T) {a : K3} (hw : wf3 a) : (Instr.lookup MT (.map (some m)) (pv3 a) true).run Tryz.prog w = .ok (.tuple #[(T a).getD zv, .bool (T a).isSome]) w := by
  obtain ⟨D, h1, h2⟩ := h
  obtain ⟨e1, e2⟩ := h2.look hw zv
  obtain ⟨v, ps, hrun, hv⟩ := h1.look_ok p3Law hu (hz w) (zd := .held zv) (zp := []) rfl (pk3_key hw)
  rw [e2] at hv
  injection hv with hv
  injection hv with hv _
  injection hv with hv
  rw [hrun, hv, e1]
theorem put_px3 {w : World} {m c : Nat} {T : K3 → Option Value} (hu : Tryz.prog.underlying MT = some (.map 120 ET)) (h : Px3 w m c T) (hq : c < 4611686018427387904) {a : K3} (hw : wf3 a) (u : Value) :
    ∃ w', (Instr.mapUpdate MT (.map (some m)) (pv3 a) u).run Tryz.prog w = .ok () w' ∧ Px3 w' m (c + (if (T a).isSome then 0 else 1)) (upd3 T a u) ∧ Kp (fun x => x = m) w w' := by
  obtain ⟨D, h1, h2⟩ := h
  obtain ⟨w', hr, r1, r2⟩ := h1.update p3Law hu (by unfold maxLen; omega) (pk3_key hw) (d := .held u) (ps := []) (val := u) rfl
  have h3 := h2.put (v := u) (h1.tidy p3Law) hw
  exact ⟨w', hr, ⟨_, by rw [← h3.size]; exact own_size3 r1, h3⟩, (grownBy_kp r2).mono (fun b _ e => by cases e; rfl)⟩
theorem wpList_put_px3 {ops : Array Oper} {rest : List Oper} {o : Oper} {ac : Act} {w : World} {Q : Exit → Act → World → Prop} (hg : o.guard = none) (mm x v : Operand) (hop : o.op = Op.mapUpdate MT mm x v)
    (hu : Tryz.prog.underlying MT = some (.map 120 ET))
    (m c : Nat) (T : K3 → Option Value) (h : Px3 w m c T) (hm : ac.eval mm = .map (some m)) (hq : c < 4611686018427387904) {a : K3} (hw : wf3 a) (hx : ac.eval x = pv3 a) (u : Value) (hv : ac.eval v = u)
    (hK : ∀ w', Px3 w' m (c + (if (T a).isSome then 0 else 1)) (upd3 T a u) → Kp (fun x => x = m) w w' → wpList Tryz.prog ops Q rest (ac.put o.dst undef) w') : wpList Tryz.prog ops Q (o :: rest) ac w := by
  obtain ⟨D, h1, h2⟩ := h
  refine wpList_mapUpdate_own _ hg mm x v MT hop 120 ET p3Law hu _ m c D hm h1 (by unfold maxLen; omega) _ _ _ hx hv (pk3_key hw) (.held u) [] rfl ?_
  intro w' h3 hg'
  have h4 := h2.put (v := u) (h1.tidy p3Law) hw
  exact hK w' ⟨_, by rw [← h4.size]; exact own_size3 h3, h4⟩ ((grownBy_kp hg').mono (fun b _ e => by cases e; rfl))
theorem wpList_del_px3 {ops : Array Oper} {rest : List Oper} {o : Oper} {ac : Act} {w : World} {Q : Exit → Act → World → Prop} (hg : o.guard = none) (mm x : Operand) (hop : o.op = Op.call { callee := Callee.builtin Builtin.delete, args := #[mm, x], argTypes := #[MT, 120] })
    (hu : Tryz.prog.underlying MT = some (.map 120 ET))
    (m c : Nat) (T : K3 → Option Value) (h : Px3 w m c T) (hm : ac.eval mm = .map (some m)) {a : K3} (hw : wf3 a) (hx : ac.eval x = pv3 a)
    (hK : ∀ w', Px3 w' m (c - (if (T a).isSome then 1 else 0)) (del3 T a) → Kp (fun x => x = m) w w' → wpList Tryz.prog ops Q rest (ac.put o.dst (.tuple #[])) w') : wpList Tryz.prog ops Q (o :: rest) ac w := by
  obtain ⟨D, h1, h2⟩ := h
  refine wpList_delete_own _ hg mm x MT 120 hop ET p3Law hu _ m c D hm h1 _ _ hx (pk3_key hw) ?_
  intro w' h3 hg'
  have h4 := h2.del (h1.tidy p3Law) hw
  exact hK w' ⟨_, by rw [← h4.size]; exact own_size3 h3, h4⟩ ((grownBy_kp hg'.grown).mono (fun b _ e => by cases e; rfl))
end

end Go.Proofs.YtippipeebkkghaaGreatDoor
