/- Numbers that a call owns: append of whatever onto none. -/
import Derived.Test.YtfaaikblkakiaaaPj
namespace Go.Proofs.Ytfaaikblkakiaaa
open Go.RowKit Go.Deep Go.Maps

theorem Rz.src {w : World} {p : Option Addr} {zs : List Int} (h : Rz w p zs) (c : Nat) : Src Try.prog 1 33 (.slice p zs.length c) zs.length (zs.map encZ) w := by
  cases p with
  | none =>
    have h0 : zs = [] := by
      rcases Nat.eq_zero_or_pos zs.length with h0 | h0
      · exact List.eq_nil_of_length_eq_zero h0
      · obtain ⟨b, o, e, _⟩ := h 0 h0; cases e
    subst h0
    exact Src.ofNil w Try.underlying33 c
  | some a =>
    refine Src.ofSlice w Try.underlying33 a zs.length c (zs.map encZ) (by simp) (fun j u hj => ?_) (fun u hu => ?_)
    · have hj' : j < zs.length := by
        have := (List.getElem?_eq_some_iff.1 hj).1
        simpa using this
      obtain ⟨b, o, e, hb⟩ := h j hj'
      simp only [Option.some.injEq] at e
      subst e
      rw [List.getElem?_map, List.getElem?_eq_getElem hj'] at hj
      rw [← Option.some.inj hj, show (⟨b, o, none⟩ : Addr).add j = ⟨b, o + j, none⟩ from by simp [Addr.add], hb, List.getD_eq_getElem?_getD, List.getElem?_eq_getElem hj']
      rfl
    · obtain ⟨z, _, rfl⟩ := List.mem_map.1 hu; rfl
/-- append of whatever onto no numbers, at a step of a region that draws its order -/
theorem step_append_ints {ops : Array Oper} {o : Oper} {a : Act} {K : Act → World → Prop} {Q : Exit → Act → World → Prop} {E : Prop} (w : World) (hgd : o.guard = none) (s y : Operand)
    (ho : o.op = .call { callee := .builtin .append, args := #[s, y], argTypes := #[33, 33] })
    (base : Nat) (v : Value) (hs : a.eval s = v) (hown : w.ownsRow base 3 1 v 0 []) (u : Value) (m : Nat) (ys : List Value) (hx : a.eval y = u) (hr : Src Try.prog 1 33 u m ys w)
    (hlen : m * 8 ≤ 140737488355328) (hbase : base ≤ w.heap.size)
    (h : ∀ v' w', w'.ownsRow base 3 1 v' m ys → Kp (fun b => v.ownBlock = some b) w w' → (v'.ownBlock = v.ownBlock ∨ v'.ownBlock = some w.heap.size) → K (a.put o.dst v') w') :
    if Region.wanted o (yielded ops a.tmps) = true then Oper.wp Try.prog o a w K Q else E := by
  have hw : Region.wanted o (yielded ops a.tmps) = true := by simp [Region.wanted, hgd]
  rw [if_pos hw]
  obtain ⟨ti, hi0, hz0, hz1, hz2⟩ := info_parts info_i
  obtain ⟨v', w', hrun, h2, h3, h4⟩ := run_append_own_src (P := Try.prog) w base 33 33 o.type 3 ti (.int .i64 0) 1 8 Try.underlying33 hi0 hz0 hz1 hz2 rfl (by decide) v 0 [] hown u m ys hr (by unfold maxLen; omega) (by omega) hbase
  unfold Oper.wp execOp
  simp only [ho, resolve, invoke, builtin, Sem.run_bind, Sem.run_pure, Result.andThen_ok, List.map_toArray, List.map_cons, List.map_nil, hs, hx, hrun]
  refine h v' w' ?_ (grownBy_kp h3) h4
  simpa using h2
theorem empty_ints (w : World) : (w.alloc (.cells #[] 3)).ownsRow w.heap.size 3 1 (.slice (some ⟨w.heap.size, 0, none⟩) 0 0) 0 [] :=
  World.ownsRow_made w #[] 0 (Nat.le_refl _) (by unfold maxLen; omega) rfl
def m7 (n : Int) : Nat := ((n % 18446744073709551616) % 7).toNat
theorem m7_lt (n : Int) : m7 n < 7 := by unfold m7; omega
theorem m7_eq (n : Int) : wrap64 ((IntKind.u64.wrap n).tmod 7) = (m7 n : Int) := by
  have h : IntKind.u64.wrap n = n % 18446744073709551616 := by simp [IntKind.wrap, IntKind.bits, IntKind.signed]
  rw [h]
  have h0 : 0 ≤ n % 18446744073709551616 := Int.emod_nonneg _ (by omega)
  rw [Int.tmod_eq_emod_of_nonneg h0]
  unfold m7 wrap64
  omega
end Go.Proofs.Ytfaaikblkakiaaa
