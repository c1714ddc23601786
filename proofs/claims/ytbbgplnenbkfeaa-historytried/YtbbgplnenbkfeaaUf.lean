/- Maps by texts (out of Mz). -/
import Derived.Test.YtbbgplnenbkfeaaUe
import Derived.StringKeys
namespace Go.Proofs.Ytbbgplnenbkfeaa
set_option linter.unusedVariables false
open Go.RowKit Go.Deep Go.Maps

theorem strL : Keyed Try.prog 9 := string_keyed Try.underlying9
/-- what D has under texts: T, c of them -/
structure Ys (D : DataW Value) (c : Nat) (T : List UInt8 → Option Value) : Prop where
  no : ∀ z, T z = none → Maps.has D (.string z) = false
  yes : ∀ z v, T z = some v → Maps.has D (.string z) = true ∧ ∀ y, D.atKey (.string z) y = .held v
  size : Maps.size D = c
/-- block m is a map of c values by texts -/
def Yt (w : World) (m q c : Nat) (T : List UInt8 → Option Value) : Prop := ∃ D, w.ownsMap Try.prog 9 idR m q D ∧ Ys D c T
theorem Yt.lt {w : World} {m q c : Nat} {T : List UInt8 → Option Value} (h : Yt w m q c T) : m < w.heap.size := by
  obtain ⟨D, h1, h2⟩ := h
  exact h1.lt
theorem Yt.keep {S : Nat → Prop} {w w' : World} {m q c : Nat} {T : List UInt8 → Option Value} (h : Yt w m q c T) (k : Kp S w w') (hS : ¬ S m) : Yt w' m q c T := by
  have hlt := h.lt
  obtain ⟨D, ⟨es, clock, hb, r⟩, h2⟩ := h
  exact ⟨D, ⟨es, clock, (k.block m hlt hS).trans hb, r⟩, h2⟩
theorem Yt.made (w : World) : Yt (w.alloc (.map #[] 0)) w.heap.size 0 0 (fun _ => none) :=
  ⟨_, World.ownsMap_made w _ _ _, fun _ _ => rfl, fun _ _ h => (by cases h), rfl⟩
/-- T with v at z -/
def updS (T : List UInt8 → Option Value) (z : List UInt8) (v : Value)   : List UInt8 → Option Value := fun x => if x = z then some v else T x
theorem Ys.put {D : DataW Value} {c : Nat} {T : List UInt8 → Option Value} {v : Value} {z : List UInt8} (hT : Tidy D) (h : Ys D c T) : Ys (D.put (.string z) (.held v)) (c + (if (T z).isSome then 0 else 1)) (updS T z v) := by
  have hM := hT.isMap
  have hzz : WideAt.IsKeyLit (Lit.string z) := trivial
  refine ⟨fun x hx => ?_, fun x u hx => ?_, ?_⟩
  · unfold updS at hx
    by_cases e : x = z
    · rw [if_pos e] at hx; cases hx
    · rw [if_neg e] at hx
      rw [has_put_other (fun h => e (by injection h))]
      exact h.no x hx
  · unfold updS at hx
    by_cases e : x = z
    · rw [if_pos e] at hx
      injection hx with hx
      subst hx e
      exact ⟨has_put_same hM hzz _, fun y => atKey_put_same hM hzz _ y⟩
    · rw [if_neg e] at hx
      have hne : Lit.string x ≠ Lit.string z := fun h => e (by injection h)
      obtain ⟨b, c⟩ := h.yes x u hx
      exact ⟨by rw [has_put_other hne]; exact b, fun y => by rw [atKey_put_other hne]; exact c y⟩
  · rw [size_put hT, h.size]
    cases hz : T z with
    | none => rw [h.no z hz]; rfl
    | some u => rw [(h.yes z u hz).1]; rfl
theorem Ys.look {D : DataW Value} {c : Nat} {T : List UInt8 → Option Value} (h : Ys D c T) (z : List UInt8) (y : Value) : Maps.has D (.string z) = (T z).isSome ∧ D.atKey (.string z) (.held y) = .held ((T z).getD y) := by
  cases hz : T z with
  | none => exact ⟨h.no z hz, atKey_of_not_has (h.no z hz) _⟩
  | some v => exact ⟨(h.yes z v hz).1, (h.yes z v hz).2 _⟩
theorem s_key (s : ByteArray) (h : s.size ≤ maxLen) : keyOf Try.prog 9 (.string s) = some (.string s.data.toList) := Go.WideMaps.keyOf_string_mk Try.underlying9 h

section
variable {MT ET : TypeId} {zv : Value}
theorem wpList_look_yt {ops : Array Oper} {rest : List Oper} {o : Oper} {a : Act} {w : World} {Q : Exit → Act → World → Prop} (hg : o.guard = none) (mm x : Operand) (hop : o.op = Op.lookup MT mm x true)
    (hu : Try.prog.underlying MT = some (.map 9 ET)) (hz : ∀ w, (zeroValue ET).run Try.prog w = .ok zv w)
    (m q c : Nat) (T : List UInt8 → Option Value) (h : Yt w m q c T) (hm : a.eval mm = .map (some m)) (s : ByteArray) (hw : s.size ≤ maxLen) (hx : a.eval x = .string s)
    (hK : wpList Try.prog ops Q rest (a.put o.dst (.tuple #[(T s.data.toList).getD zv, .bool (T s.data.toList).isSome])) w) : wpList Try.prog ops Q (o :: rest) a w := by
  obtain ⟨D, h1, h2⟩ := h
  obtain ⟨e1, e2⟩ := h2.look s.data.toList zv
  refine wpList_lookup_own_ok _ hg mm x MT hop 9 ET strL hu idR (hz w) (.held zv) [] rfl m q D hm h1 _ _ hx (s_key s hw) ?_
  intro v ps hv
  rw [e2] at hv
  injection hv with hv
  injection hv with hv _
  injection hv with hv
  rw [hv, e1]
  exact hK
set_option maxRecDepth 100000 in
theorem look_yt_ok {w : World} {m q c : Nat} {T : List UInt8 → Option Value} (hu : Try.prog.underlying MT = some (.map 9 ET)) (hz : ∀ w, (zeroValue ET).run Try.prog w = .ok zv w) (h : Yt w m q c T) (s : ByteArray) (hw : s.size ≤ maxLen) : (Instr.lookup MT (.map (some m)) (.string s) true).run Try.prog w = .ok (.tuple #[(T s.data.toList).getD zv, .bool (T s.data.toList).isSome]) w := by
  obtain ⟨D, h1, h2⟩ := h
  obtain ⟨e1, e2⟩ := h2.look s.data.toList zv
  obtain ⟨v, ps, hrun, hv⟩ := h1.look_ok strL hu (hz w) (zd := .held zv) (zp := []) rfl (s_key s hw)
  rw [e2] at hv
  injection hv with hv
  injection hv with hv _
  injection hv with hv
  rw [hrun, hv, e1]
set_option maxRecDepth 100000 in
theorem look_yt {w : World} {m q c : Nat} {T : List UInt8 → Option Value} (hu : Try.prog.underlying MT = some (.map 9 ET)) (hz : ∀ w, (zeroValue ET).run Try.prog w = .ok zv w) (h : Yt w m q c T) (s : ByteArray) (hw : s.size ≤ maxLen) : (Instr.lookup MT (.map (some m)) (.string s) false).run Try.prog w = .ok ((T s.data.toList).getD zv) w := by
  obtain ⟨D, h1, h2⟩ := h
  obtain ⟨e1, e2⟩ := h2.look s.data.toList zv
  obtain ⟨v, ps, hrun, hv⟩ := h1.lookup strL hu (hz w) (zd := .held zv) (zp := []) rfl (s_key s hw)
  rw [e2] at hv
  injection hv with hv
  injection hv with hv _
  injection hv with hv
  rw [hrun, hv]
theorem wpList_put_yt {ops : Array Oper} {rest : List Oper} {o : Oper} {a : Act} {w : World} {Q : Exit → Act → World → Prop} (hg : o.guard = none) (mm x v : Operand) (hop : o.op = Op.mapUpdate MT mm x v)
    (hu : Try.prog.underlying MT = some (.map 9 ET))
    (m q c : Nat) (T : List UInt8 → Option Value) (h : Yt w m q c T) (hm : a.eval mm = .map (some m)) (hq : q < 4611686018427387904) (s : ByteArray) (hw : s.size ≤ maxLen) (hx : a.eval x = .string s) (u : Value) (hv : a.eval v = u)
    (hK : ∀ w', Yt w' m (q + 1) (c + (if (T s.data.toList).isSome then 0 else 1)) (updS T s.data.toList u) → Kp (fun x => x = m) w w' → wpList Try.prog ops Q rest (a.put o.dst undef) w') : wpList Try.prog ops Q (o :: rest) a w := by
  obtain ⟨D, h1, h2⟩ := h
  refine wpList_mapUpdate_own _ hg mm x v MT hop 9 ET strL hu _ m q D hm h1 (by unfold maxLen; omega) _ _ _ hx hv (s_key s hw) (.held u) [] rfl ?_
  intro w' h3 hg'
  exact hK w' ⟨_, h3, h2.put (h1.tidy strL)⟩ ((grownBy_kp hg').mono (fun b _ e => by cases e; rfl))
theorem len_yt {w : World} {m q c : Nat} {T : List UInt8 → Option Value} (hu : Try.prog.underlying MT = some (.map 9 ET)) (h : Yt w m q c T) (ty : TypeId) : (Builtin.len_ #[MT] ty #[.map (some m)]).run Try.prog w = .ok (.int .i64 (c : Int)) w := by
  obtain ⟨D, h1, h2⟩ := h
  rw [h1.len hu ty, h2.size]
end

end Go.Proofs.Ytbbgplnenbkfeaa
