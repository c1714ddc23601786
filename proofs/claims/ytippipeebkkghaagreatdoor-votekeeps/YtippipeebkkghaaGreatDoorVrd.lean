/- append of noughts: 'append(x, make([]byte, n)...)'. -/
import Derived.Test.YtippipeebkkghaaGreatDoorKb
namespace Go.Proofs.YtippipeebkkghaaGreatDoor
open Go.RowKit Go.Deep

theorem zeros_vl (m : Nat) : Builtin.zeroCells (Value.int .u8 0).cells m = (vl (List.replicate m 0)).toArray := by
  apply Array.ext'
  apply List.ext_getElem?
  intro j
  unfold Builtin.zeroCells vl
  by_cases h : j < m
  · simp [h, Value.cells, Nat.mod_one]
  · simp [h, Value.cells]
theorem vl_rep_length (m : Nat) : (vl (List.replicate m 0)).length = m := by rw [vl_length, List.length_replicate]

theorem run_append_zeros (w : World) (base : Nat) (ty : TypeId) (v : Value) (xs : List Nat) (hown : Ow w base v xs) (m : Nat) (hm : xs.length + m ≤ 1000000) (hbase : base ≤ w.heap.size) :
    ∃ v' w', (Builtin.append_ #[75, 3] ty #[v, .int .i64 (m : Int)]).run Tryz.prog w = .ok v' w' ∧ Ow w' base v' (xs ++ List.replicate m 0) ∧ w.grownBy w' v.ownBlock ∧ (v'.ownBlock = v.ownBlock ∨ v'.ownBlock = some w.heap.size) := by
  obtain ⟨i, hi, hz, hsz, hby⟩ := info_parts info5
  have ht : Tryz.prog.underlying 75 = some (.slice 5) := Tryz.underlying75
  have hk : Tryz.prog.underlying 3 = some (.int .i64) := Tryz.underlying3
  have hlen : (vl (xs ++ List.replicate m 0)).length = xs.length + m := by rw [vl_length, List.length_append, List.length_replicate]
  have hap : vl (xs ++ List.replicate m 0) = vl xs ++ vl (List.replicate m 0) := vl_append _ _
  have hL : (xs ++ List.replicate m 0).length = xs.length + m := by rw [List.length_append, List.length_replicate]
  have hw : IntKind.i64.wrap (m : Int) = (m : Int) := by rw [IntKind.wrap_i64]; omega
  have h0 : ¬ ((m : Int) < 0) := by omega
  have h1 : ¬ (281474976710656 < (m : Int)) := by omega
  have grown : ∀ (old : Nat), old < xs.length + m → ∀ (row : Option Nat),
      Ow (w.drew.alloc (.cells ((vl xs ++ vl (List.replicate m 0)).toArray ++ Builtin.zeroCells (Value.int .u8 0).cells (grownCap w (xs.length + m) old 5 - (xs.length + m))) 5)) base
        (.slice (some ⟨w.heap.size, 0, none⟩) (xs.length + m) (grownCap w (xs.length + m) old 5)) (xs ++ List.replicate m 0) ∧
      w.grownBy (w.drew.alloc (.cells ((vl xs ++ vl (List.replicate m 0)).toArray ++ Builtin.zeroCells (Value.int .u8 0).cells (grownCap w (xs.length + m) old 5 - (xs.length + m))) 5)) row := by
    intro old ho row
    have hge := grownCap_ge w (xs.length + m) old 5
    have hcm : grownCap w (xs.length + m) old 5 ≤ maxLen := grownCap_le_maxLen w (xs.length + m) old 5 (by unfold maxLen; omega)
    refine ⟨⟨by rw [hlen, hL]; omega, .inr ⟨w.heap.size, _, _, by rw [hL], hbase, heap_alloc_new w.drew _, by rw [hL]; exact hge, hcm, ?_, ?_⟩⟩, ⟨rfl, rfl, rfl, by simp, fun k hk _ => heap_alloc_old w.drew _ hk⟩⟩
    · rw [zeros_vl]
      simp only [Array.size_append, List.size_toArray, List.length_append, vl_length, List.length_replicate]
      omega
    · simp only [Array.toList_append, hap, hL]
      rw [show (xs.length + m) * 1 = (vl xs ++ vl (List.replicate m 0)).length from by rw [List.length_append, vl_length, vl_rep_length]; omega]
      exact List.take_left
  rcases hown.2 with ⟨rfl, h00⟩ | ⟨g, cap, cur, rfl, hbg, hg, hnc, hcm, hcs, htake⟩
  · have hx : xs = [] := List.eq_nil_of_length_eq_zero h00
    subst hx
    by_cases hm0 : m = 0
    · subst hm0
      refine ⟨.slice none 0 0, w, ?_, World.ownsRow_nil w base _ _, ⟨rfl, rfl, rfl, Nat.le_refl _, fun _ _ _ => rfl⟩, Or.inl rfl⟩
      have hw0 : IntKind.i64.wrap 0 = 0 := by decide
      simp [Builtin.append_, run_underlying ht, run_underlying hk, sizeOf, typeInfo, hi, asInt, asIntOf, hw0]
    · have hm1 : ¬ ((m : Int) ≤ 0) := by omega
      have hgr := grown 0 (by simp; omega) (Value.ownBlock (.slice none 0 0))
      have hfit := growslice_fits (old := 0) (need := m) (bytes := i.bytes) (by omega) (by rw [hby]; simp at hm; omega)
      rw [hby, Nat.mul_one] at hfit
      have hf' : ¬ (281474976710656 < Builtin.nextslicecap m 0) := by omega
      have hmx : ¬ (9223372036854775807 < (m : Int)) := by simp at hm; omega
      simp only [List.length_nil, Nat.zero_add] at hgr
      refine ⟨_, _, ?_, hgr.1, hgr.2, Or.inr rfl⟩
      rw [zeros_vl]
      simp [Builtin.append_, run_underlying ht, run_underlying hk, sizeOf, typeInfo, zeroValue, hi, hz, asInt, asIntOf, hw, h0, h1, hsz, hby, hm0, hmx, hf', Question.forced, newRow, grownCap, Builtin.firstCells, zeros_vl]
      rfl
  · by_cases hroom : xs.length + m ≤ cap
    · have hfit : xs.length + m ≤ cur.size := by omega
      have hst := run_storeCells_at Tryz.prog g (xs.length * 1) 5 (vl (List.replicate m 0)) 0 cur w hg (by rw [vl_rep_length]; omega) (vl_one _)
      simp only [Nat.add_zero, Nat.mul_one] at hst
      have hr : (Builtin.append_ #[75, 3] ty #[.slice (some ⟨g, 0, none⟩) xs.length cap, .int .i64 (m : Int)]).run Tryz.prog w =
          .ok (.slice (some ⟨g, 0, none⟩) (xs.length + m) cap) (w.setRow g (cur.toList.take xs.length ++ vl (List.replicate m 0) ++ cur.toList.drop (xs.length + (vl (List.replicate m 0)).length)).toArray) := by
        by_cases hm0 : m = 0
        · subst hm0
          have hw0 : IntKind.i64.wrap 0 = 0 := by decide
          simp only [List.replicate_zero] at hst ⊢
          have e1 : vl [] = [] := rfl
          rw [e1] at hst ⊢
          simp [Builtin.append_, run_underlying ht, run_underlying hk, sizeOf, typeInfo, hi, asInt, asIntOf, hw0, hsz, Nat.le_of_lt_succ (Nat.lt_succ_of_le hnc), Addr.add_lit] at hst ⊢
          rw [hst]; rfl
        · simp [Builtin.append_, run_underlying ht, run_underlying hk, sizeOf, typeInfo, zeroValue, hi, hz, asInt, asIntOf, hw, h0, h1, hsz, hby, hm0, hroom, Addr.add_lit, zeros_vl, hst]
      refine ⟨_, _, hr, ⟨by rw [hlen, hL]; omega, .inr ⟨g, cap, _, by rw [hL], hbg, setRow_heap w g cur _ 5 _ hg, by rw [hL]; exact hroom, hcm, ?_, ?_⟩⟩, ⟨rfl, rfl, rfl, by simp, fun k _ hk => setRow_other w g k _ (fun e => hk (by simp [Value.ownBlock, e]))⟩, Or.inl rfl⟩
      · simp only [List.size_toArray, List.length_append, List.length_take, List.length_drop, Array.length_toList, vl_rep_length]
        omega
      · have ht1 : cur.toList.take xs.length = vl xs := by rw [Nat.mul_one] at htake; exact htake
        rw [ht1, hap, hL, show (xs.length + m) * 1 = (vl xs ++ vl (List.replicate m 0)).length from by rw [List.length_append, vl_length, vl_rep_length]; omega]
        exact List.take_left
    · have hm0 : m ≠ 0 := by omega
      have holds : ∀ j u, (vl xs)[j]? = some u → w.drew.cell? ((⟨g, 0, none⟩ : Addr).add j) = some u := by simpa using hown.cells (g := g) rfl
      have hold := run_firstCells_some (P := Tryz.prog) w.drew i.size xs.length ⟨g, 0, none⟩ xs.length cap (vl xs) (by rw [hsz, vl_length]; omega) holds
      rw [hsz] at hold
      have hgr := grown cap (by omega) (Value.ownBlock (.slice (some ⟨g, 0, none⟩) xs.length cap))
      have hfit := growslice_fits (old := cap) (need := xs.length + m) (bytes := i.bytes) (by omega) (by rw [hby]; omega)
      rw [hby, Nat.mul_one] at hfit
      have hf' : ¬ (281474976710656 < Builtin.nextslicecap (xs.length + m) cap) := by omega
      have hmx : ¬ (9223372036854775807 < ((xs.length : Int) + (m : Int))) := by omega
      refine ⟨_, _, ?_, hgr.1, hgr.2, Or.inr rfl⟩
      rw [zeros_vl]
      simp [Builtin.append_, run_underlying ht, run_underlying hk, sizeOf, typeInfo, zeroValue, hi, hz, asInt, asIntOf, hw, h0, h1, hsz, hby, hm0, hroom, hmx, hf', Question.forced, newRow, grownCap, hold, zeros_vl]

/-- .. at a step of a region that draws its order -/
theorem step_append_zeros {ops : Array Oper} {o : Oper} {a : Act} {K : Act → World → Prop} {Q : Exit → Act → World → Prop} {E : Prop} (w0 w : World) (k0 : Kp (fun _ => False) w0 w) (hgd : o.guard = none) (s y : Operand)
    (ho : o.op = .call { callee := .builtin .append, args := #[s, y], argTypes := #[75, 3] })
    (v : Value) (xs : List Nat) (hs : a.eval s = v) (hown : Ow w w0.heap.size v xs) (m : Nat) (hx : a.eval y = .int .i64 (m : Int)) (hlen : xs.length + m ≤ 1000000)
    (h : ∀ v' w', Ow w' w0.heap.size v' (xs ++ List.replicate m 0) → Kp (fun _ => False) w0 w' → K (a.put o.dst v') w') :
    if Region.wanted o (yielded ops a.tmps) = true then Oper.wp Tryz.prog o a w K Q else E := by
  have hw : Region.wanted o (yielded ops a.tmps) = true := by simp [Region.wanted, hgd]
  rw [if_pos hw]
  obtain ⟨v', w', hrun, h2, h3, h4⟩ := run_append_zeros w w0.heap.size o.type v xs hown m hlen k0.size
  unfold Oper.wp execOp
  simp only [ho, resolve, invoke, builtin, Sem.run_bind, Sem.run_pure, Result.andThen_ok, List.map_toArray, List.map_cons, List.map_nil, hs, hx, hrun]
  exact h v' w' h2 (Kp.app k0 hown (grownBy_kp h3))

theorem wpList_append_zeros {ops : Array Oper} {rest : List Oper} {o : Oper} {a : Act} {Q : Exit → Act → World → Prop} (w : World) (base : Nat) (hgd : o.guard = none) (s y : Operand)
    (ho : o.op = .call { callee := .builtin .append, args := #[s, y], argTypes := #[75, 3] })
    (v : Value) (xs : List Nat) (hs : a.eval s = v) (hown : Ow w base v xs) (m : Nat) (hx : a.eval y = .int .i64 (m : Int)) (hlen : xs.length + m ≤ 1000000) (hbase : base ≤ w.heap.size)
    (h : ∀ v' w', Ow w' base v' (xs ++ List.replicate m 0) → Kp (fun b => v.ownBlock = some b) w w' → wpList Tryz.prog ops Q rest (a.put o.dst v') w') : wpList Tryz.prog ops Q (o :: rest) a w :=
  wpList_plain hgd fun K hK => by
    obtain ⟨v', w', hrun, h2, h3, h4⟩ := run_append_zeros w base o.type v xs hown m hlen hbase
    unfold Oper.wp execOp
    simp only [ho, resolve, invoke, builtin, Sem.run_bind, Sem.run_pure, Result.andThen_ok, List.map_toArray, List.map_cons, List.map_nil, hs, hx, hrun]
    exact hK _ _ (h v' w' h2 (grownBy_kp h3))
end Go.Proofs.YtippipeebkkghaaGreatDoor
