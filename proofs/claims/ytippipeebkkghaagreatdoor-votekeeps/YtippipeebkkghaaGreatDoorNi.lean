/- frame.appendCmd. -/
import Derived.Test.YtippipeebkkghaaGreatDoorNh
namespace Go.Proofs.YtippipeebkkghaaGreatDoor
set_option linter.unusedVariables false
set_option linter.unusedSimpArgs false
open Go.RowKit Go.Deep

/-- a key's bytes -/
def keyB (k : ByteArray) : List Nat := k.data.toList.map (·.toNat)
theorem keyB_len (k : ByteArray) : (keyB k).length = k.size := by unfold keyB; rw [List.length_map]; rfl
/-- the command, plain -/
def cpOf (c : Cs0) (zs : List Int) : Cp := ⟨c.id.toNat, c.kind.toNat, c.blob.toNat, c.other.toNat, c.index.toNat, c.node.toNat, c.size.toNat, c.sum.toNat, c.k.toNat, c.m.toNat, keyB c.key, zs.map Int.toNat⟩
theorem vl_key (k : ByteArray) : byteCells k = vl (keyB k) := by
  unfold vl keyB
  rw [List.map_map]
  rfl
/-- append of a text -/
theorem wpList_append_key {ops : Array Oper} {rest : List Oper} {o : Oper} {a : Act} {Q : Exit → Act → World → Prop} (w : World) (hgd : o.guard = none) (s y : Operand)
    (ho : o.op = .call { callee := .builtin .append, args := #[s, y], argTypes := #[75, 9] })
    (base : Nat) (v : Value) (xs : List Nat) (hs : a.eval s = v) (hown : Ow w base v xs) (k : ByteArray) (hx : a.eval y = .string k)
    (hlen : xs.length + k.size ≤ 140737488355328) (hbase : base ≤ w.heap.size)
    (h : ∀ v' w', Ow w' base v' (xs ++ keyB k) → Kp (fun b => v.ownBlock = some b) w w' → (v'.ownBlock = v.ownBlock ∨ v'.ownBlock = some w.heap.size) → wpList Tryz.prog ops Q rest (a.put o.dst v') w') :
    wpList Tryz.prog ops Q (o :: rest) a w := by
  obtain ⟨ti, hi0, hz0, hz1, hz2⟩ := info_parts info5
  refine wpList_append_own_src w hgd s y 75 9 ho base 5 ti (.int .u8 0) 1 1 Tryz.underlying75 hi0 hz0 hz1 hz2 rfl (by decide) v xs.length (vl xs) hs hown _ k.size (byteCells k) hx (Src.ofString w Tryz.underlying9 k) (by unfold maxLen; omega) (by omega) hbase ?_
  intro v' w' h1 h2 h3
  refine h v' w' ?_ (grownBy_kp h2) h3
  unfold Ow
  rw [List.length_append, keyB_len, vl_append]
  rw [vl_key] at h1
  exact h1
/-- what may be is written in full -/
structure MayF (c : Cs0) (zs : List Int) : Prop where
  key : c.key.size ≤ 8
  len : zs.length ≤ 255
  n : ∀ z ∈ [c.id, c.kind, c.blob, c.other, c.index, c.node, c.size, c.k, c.m], 0 ≤ z ∧ z ≤ 1152921504606846976
  z : ∀ z ∈ zs, 0 ≤ z ∧ z ≤ 15
theorem upTo_mem {most : Int} {zs : List Int} (h : upTo most zs = true) : ∀ z ∈ zs, 0 ≤ z ∧ z ≤ most := fun z hz => by
  obtain ⟨k, hk⟩ := List.getElem?_of_mem hz
  exact upTo_at.1 h k z hk
theorem mayC_full {c : Cs0} {zs : List Int} (h : mayC c zs = true) : MayF c zs := by
  unfold mayC at h
  simp only [Bool.and_eq_true, decide_eq_true_eq] at h
  obtain ⟨h1, h2, h3, h4, h5, h6, h7, h8⟩ := h
  have m5 := upTo_mem h5
  have m6 := upTo_mem h6
  have m7 := upTo_mem h7
  simp only [List.mem_cons, List.not_mem_nil, or_false, forall_eq_or_imp, forall_eq] at m5 m6 m7
  refine ⟨h1, h2, fun z hz => ?_, upTo_mem h8⟩
  simp only [List.mem_cons, List.not_mem_nil, or_false] at hz
  rcases hz with rfl | rfl | rfl | rfl | rfl | rfl | rfl | rfl | rfl <;> omega
/-- numbers of a list that was made just now are written -/
theorem appN_new (base : Nat) (v : Value) (xs : List Nat) (ns : List Nat) (n : Nat) (u : World) (ho : Ow u base v xs) (hb : base ≤ u.heap.size) (hn : n = ns.length) (hs : ∀ x ∈ ns, x < 9223372036854775808) (hl : xs.length + 9 * ns.length ≤ 1000000000) :
    Calls Tryz.prog 79 #[v, .slice (some ⟨u.heap.size, 0, none⟩) n n] (u.alloc (.cells (ns.map (fun x : Nat => Value.int .i64 (x : Int))).toArray 3)) fun e w' => ∃ v', e = .returned v' ∧ Ap u w' base v v' (xs ++ numsB ns) := by
  have hlv := Lv.new u (ns.map (fun x : Nat => Value.int .i64 (x : Int))).toArray 3
  have ka : Kp (fun b => v.ownBlock = some b) u (u.alloc (.cells (ns.map (fun x : Nat => Value.int .i64 (x : Int))).toArray 3)) := (Kp.refl _ _).alloc _
  refine (appN_ok (fun b => b = u.heap.size) base v xs ns (some ⟨u.heap.size, 0, none⟩) n n _ (ho.alloc _) (Nat.le_trans hb ka.size) (fun j y hj => ⟨_, _, rfl, rfl, ?_⟩) (fun b hb2 => ?_) hn hs hl).mono ?_
  · rw [Nat.zero_add]
    exact hlv.cell hj
  · subst hb2
    refine ⟨fun e => ?_, by simp⟩
    have := (ownBlock_lt ho e).2
    omega
  · rintro e w' ⟨v', rfl, ha⟩
    exact ⟨v', rfl, (⟨ho.alloc _, ka, fun b e => Or.inl e⟩ : Ap u _ base v v xs).trans ha⟩
end Go.Proofs.YtippipeebkkghaaGreatDoor
