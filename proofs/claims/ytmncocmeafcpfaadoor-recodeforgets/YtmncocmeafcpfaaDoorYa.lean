/- Noughts appended onto bytes of one's own: append(s, make([]byte, n)...). -/
import Derived.Test.YtmncocmeafcpfaaDoorKb
namespace Go.Proofs.YtmncocmeafcpfaaDoor
set_option linter.unusedVariables false
set_option linter.unusedSimpArgs false
open Go.RowKit Go.Deep

/-- so many noughts -/
def nou (m : Nat) : List Nat := List.replicate m 0
theorem nou_len (m : Nat) : (nou m).length = m := by simp [nou]
def nouS (m : Nat) : ByteArray := ⟨(List.replicate m (0 : UInt8)).toArray⟩
theorem nouS_size (m : Nat) : (nouS m).size = m := by simp [nouS, ByteArray.size]
theorem nouS_cells (m : Nat) : byteCells (nouS m) = vl (nou m) := by
  simp [byteCells, nouS, vl, nou]
theorem zeroCells_nou (m : Nat) : Builtin.zeroCells #[Value.int .u8 0] m = (vl (nou m)).toArray := by
  apply Array.ext
  · simp [Builtin.zeroCells, vl, nou]
  · intro i h1 h2
    simp [Builtin.zeroCells, vl, nou]
    rw [Nat.mod_one]
    rfl

set_option maxHeartbeats 800000 in
theorem append_nou_eq (w : World) (ty : TypeId) (p : Option Addr) (n c m : Nat) (hm : m ≤ 1000) (hn : n ≤ 1000) (hc : n ≤ c) :
    (Builtin.append_ #[22, 3] ty #[.slice p n c, .int .i64 m]).run Tryd.prog w = (Builtin.append_ #[22, 9] ty #[.slice p n c, .string (nouS m)]).run Tryd.prog w := by
  obtain ⟨ti, hi0, hz0, hz1, hz2⟩ := info_parts info5
  have hw : IntKind.i64.wrap (m : Int) = (m : Int) := by unfold IntKind.wrap; simp [IntKind.bits, IntKind.signed]; omega
  have h1 : ¬ ((m : Int) < 0) := by omega
  have h2 : ¬ (281474976710656 < (m : Int)) := by omega
  have h3 : ¬ (9223372036854775807 < (n : Int) + (m : Int)) := by omega
  have hf : ∀ w' : World, (Builtin.firstCells 1 m (.string (nouS m))).run Tryd.prog w' = .ok (vl (nou m)).toArray w' := fun w' => by
    have := firstCells_string (P := Tryd.prog) (nouS m) w'
    rw [nouS_size, nouS_cells] at this
    exact this
  have hzc := zeroCells_nou m
  have hai : ∀ w' : World, (asInt (.int .i64 (m : Int))).run Tryd.prog w' = .ok (m : Int) w' := fun _ => rfl
  have hai0 : ∀ w' : World, (asInt (.int .i64 0)).run Tryd.prog w' = .ok (0 : Int) w' := fun _ => rfl
  have hw0 : IntKind.i64.wrap 0 = 0 := rfl
  have hmx : max (m : Int) 0 = (m : Int) := by omega
  by_cases h0 : m = 0
  · subst h0
    simp [Builtin.append_, run_underlying Tryd.underlying22, run_underlying Tryd.underlying3, run_underlying Tryd.underlying9, sizeOf, typeInfo, hi0, hz0, hz1, hz2, Builtin.lenOf, nouS_size, hf, hc, hai0, hw0, nou, vl]
  · by_cases hr : n + m ≤ c
    · simp [Builtin.append_, run_underlying Tryd.underlying22, run_underlying Tryd.underlying3, run_underlying Tryd.underlying9, sizeOf, typeInfo, zeroValue, hr, hi0, hz0, hz1, hz2, hw, h1, h2, h3, Builtin.lenOf, nouS_size, hf, hai, h0, hzc, hmx, Value.cells]
    have h5 : Builtin.nextslicecap (n + m) c * 1 ≤ 281474976710656 := growslice_fits (by omega) (by omega)
    rw [Nat.mul_one] at h5
    have h6 : ¬ (281474976710656 < Builtin.nextslicecap (n + m) c) := by omega
    simp [Builtin.append_, run_underlying Tryd.underlying22, run_underlying Tryd.underlying3, run_underlying Tryd.underlying9, sizeOf, typeInfo, zeroValue, hr, h6, hi0, hz0, hz1, hz2, hw, h1, h2, h3, Builtin.lenOf, nouS_size, hf, hai, h0, hzc, hmx, Value.cells]

theorem run_append_nou (w : World) (ty : TypeId) (base : Nat) (v : Value) (xs : List Nat) (m : Nat) (hm : m ≤ 1000) (hx : xs.length ≤ 1000) (hown : Ow w base v xs) (hb : base ≤ w.heap.size) :
    ∃ v' w', (Builtin.append_ #[22, 3] ty #[v, .int .i64 m]).run Tryd.prog w = .ok v' w' ∧ Ow w' base v' (xs ++ nou m) ∧ w.grownBy w' v.ownBlock ∧ (v'.ownBlock = v.ownBlock ∨ v'.ownBlock = some w.heap.size) := by
  obtain ⟨ti, hi0, hz0, hz1, hz2⟩ := info_parts info5
  obtain ⟨v', w', hr, ho, hg, hk⟩ := run_append_own_src (P := Tryd.prog) w base 22 9 ty 5 ti (.int .u8 0) 1 1 Tryd.underlying22 hi0 hz0 hz1 hz2 rfl (by decide) v xs.length (vl xs) hown (.string (nouS m)) m (vl (nou m)) (by
    have := Src.ofString (P := Tryd.prog) w Tryd.underlying9 (nouS m)
    rw [nouS_size, nouS_cells] at this
    exact this) (by unfold maxLen; omega) (by omega) hb
  refine ⟨v', w', ?_, ?_, hg, hk⟩
  · have hv : ∃ p c, v = .slice p xs.length c ∧ xs.length ≤ c := by
      rcases hown.2 with ⟨e1, e2⟩ | ⟨g, cap, cur, rfl, _, _, hnc, _⟩
      · exact ⟨none, 0, by rw [e2, e1], by omega⟩
      · exact ⟨_, cap, rfl, hnc⟩
    obtain ⟨p, c, rfl, hc⟩ := hv
    rw [append_nou_eq w ty p xs.length c m hm hx hc]
    exact hr
  · show w'.ownsRow base 5 1 v' (xs ++ nou m).length (vl (xs ++ nou m))
    rw [List.length_append, nou_len, vl_append]
    exact ho
theorem wpList_append_nou {ops : Array Oper} {rest : List Oper} {o : Oper} {a : Act} {Q : Exit → Act → World → Prop} (w : World) (hgd : o.guard = none) (s y : Operand)
    (ho : o.op = .call { callee := .builtin .append, args := #[s, y], argTypes := #[22, 3] })
    (base : Nat) (v : Value) (xs : List Nat) (m : Nat) (hs : a.eval s = v) (hy : a.eval y = .int .i64 (m : Int)) (hm : m ≤ 1000) (hx : xs.length ≤ 1000) (hown : Ow w base v xs) (hb : base ≤ w.heap.size)
    (h : ∀ v' w', Ow w' base v' (xs ++ nou m) → Kp (fun b => v.ownBlock = some b) w w' → (v'.ownBlock = v.ownBlock ∨ v'.ownBlock = some w.heap.size) → wpList Tryd.prog ops Q rest (a.put o.dst v') w') :
    wpList Tryd.prog ops Q (o :: rest) a w := by
  refine wpList_plain hgd fun K hK => ?_
  obtain ⟨v', w', hr, h2, h3, h4⟩ := run_append_nou w o.type base v xs m hm hx hown hb
  unfold Oper.wp execOp
  simp only [ho, resolve, invoke, builtin, Sem.run_bind, Sem.run_pure, Result.andThen_ok, List.map_toArray, List.map_cons, List.map_nil, hs, hy, hr]
  exact hK _ _ (h v' w' h2 (grownBy_kp h3) h4)
end Go.Proofs.YtmncocmeafcpfaaDoor
