/- Texts of this proof, joined: Ni, Nj. -/
import Derived.Test.YtoepemgflbmlcaaDoorMgAF
/- frame.appendCmd. -/
namespace Go.Proofs.YtoepemgflbmlcaaDoor
set_option linter.unusedVariables false
set_option linter.unusedSimpArgs false
open Go.RowKit Go.Deep

/-- a key's bytes -/
def keyB (k : ByteArray) : List Nat := k.data.toList.map (·.toNat)
theorem keyB_len (k : ByteArray) : (keyB k).length = k.size := by unfold keyB; rw [List.length_map]; rfl
/-- the command, plain -/
def cpOf (c : Cs0) (zs : List Int) : Cp := ⟨c.id.toNat, c.kind.toNat, c.blob.toNat, c.other.toNat, c.index.toNat, c.node.toNat, c.size.toNat, c.sum.toNat, c.k.toNat, c.m.toNat, keyB c.key, zs.map Int.toNat⟩
theorem vl_key (k : ByteArray) : byteCells k = vl (keyB k) := by
  unfold vl keyB
  rw [List.map_map]
  rfl
/-- append of a text -/
theorem wpList_append_key {ops : Array Oper} {rest : List Oper} {o : Oper} {a : Act} {Q : Exit → Act → World → Prop} (w : World) (hgd : o.guard = none) (s y : Operand)
    (ho : o.op = .call { callee := .builtin .append, args := #[s, y], argTypes := #[28, 9] })
    (base : Nat) (v : Value) (xs : List Nat) (hs : a.eval s = v) (hown : Ow w base v xs) (k : ByteArray) (hx : a.eval y = .string k)
    (hlen : xs.length + k.size ≤ 140737488355328) (hbase : base ≤ w.heap.size)
    (h : ∀ v' w', Ow w' base v' (xs ++ keyB k) → Kp (fun b => v.ownBlock = some b) w w' → (v'.ownBlock = v.ownBlock ∨ v'.ownBlock = some w.heap.size) → wpList Tryd.prog ops Q rest (a.put o.dst v') w') :
    wpList Tryd.prog ops Q (o :: rest) a w := by
  obtain ⟨ti, hi0, hz0, hz1, hz2⟩ := info_parts info5
  refine wpList_append_own_src w hgd s y 28 9 ho base 5 ti (.int .u8 0) 1 1 Tryd.underlying28 hi0 hz0 hz1 hz2 rfl (by decide) v xs.length (vl xs) hs hown _ k.size (byteCells k) hx (Src.ofString w Tryd.underlying9 k) (by unfold maxLen; omega) (by omega) hbase ?_
  intro v' w' h1 h2 h3
  refine h v' w' ?_ (grownBy_kp h2) h3
  unfold Ow
  rw [List.length_append, keyB_len, vl_append]
  rw [vl_key] at h1
  exact h1
/-- what may be is written in full -/
structure MayF (c : Cs0) (zs : List Int) : Prop where
  key : c.key.size ≤ 8
  len : zs.length ≤ 255
  n : ∀ z ∈ [c.id, c.kind, c.blob, c.other, c.index, c.node, c.size, c.k, c.m], 0 ≤ z ∧ z ≤ 1152921504606846976
  z : ∀ z ∈ zs, 0 ≤ z ∧ z ≤ 15
theorem upTo_mem {most : Int} {zs : List Int} (h : upTo most zs = true) : ∀ z ∈ zs, 0 ≤ z ∧ z ≤ most := fun z hz => by
  obtain ⟨k, hk⟩ := List.getElem?_of_mem hz
  exact upTo_at.1 h k z hk
theorem mayC_full {c : Cs0} {zs : List Int} (h : mayC c zs = true) : MayF c zs := by
  unfold mayC at h
  simp only [Bool.and_eq_true, decide_eq_true_eq] at h
  obtain ⟨h1, h2, h3, h4, h5, h6, h7, h8⟩ := h
  have m5 := upTo_mem h5
  have m6 := upTo_mem h6
  have m7 := upTo_mem h7
  simp only [List.mem_cons, List.not_mem_nil, or_false, forall_eq_or_imp, forall_eq] at m5 m6 m7
  refine ⟨h1, h2, fun z hz => ?_, upTo_mem h8⟩
  simp only [List.mem_cons, List.not_mem_nil, or_false] at hz
  rcases hz with rfl | rfl | rfl | rfl | rfl | rfl | rfl | rfl | rfl <;> omega
/-- numbers of a list that was made just now are written -/
theorem appN_new (base : Nat) (v : Value) (xs : List Nat) (ns : List Nat) (n : Nat) (u : World) (ho : Ow u base v xs) (hb : base ≤ u.heap.size) (hn : n = ns.length) (hs : ∀ x ∈ ns, x < 9223372036854775808) (hl : xs.length + 9 * ns.length ≤ 1000000000) :
    Calls Tryd.prog 52 #[v, .slice (some ⟨u.heap.size, 0, none⟩) n n] (u.alloc (.cells (ns.map (fun x : Nat => Value.int .i64 (x : Int))).toArray 3)) fun e w' => ∃ v', e = .returned v' ∧ Ap u w' base v v' (xs ++ numsB ns) := by
  have hlv := Lv.new u (ns.map (fun x : Nat => Value.int .i64 (x : Int))).toArray 3
  have ka : Kp (fun b => v.ownBlock = some b) u (u.alloc (.cells (ns.map (fun x : Nat => Value.int .i64 (x : Int))).toArray 3)) := (Kp.refl _ _).alloc _
  refine (appN_ok (fun b => b = u.heap.size) base v xs ns (some ⟨u.heap.size, 0, none⟩) n n _ (ho.alloc _) (Nat.le_trans hb ka.size) (fun j y hj => ⟨_, _, rfl, rfl, ?_⟩) (fun b hb2 => ?_) hn hs hl).mono ?_
  · rw [Nat.zero_add]
    exact hlv.cell hj
  · subst hb2
    refine ⟨fun e => ?_, by simp⟩
    have := (ownBlock_lt ho e).2
    omega
  · rintro e w' ⟨v', rfl, ha⟩
    exact ⟨v', rfl, (⟨ho.alloc _, ka, fun b e => Or.inl e⟩ : Ap u _ base v v xs).trans ha⟩
end Go.Proofs.YtoepemgflbmlcaaDoor

/- frame.appendCmd (laid by scripts/mknj.py). -/
namespace Go.Proofs.YtoepemgflbmlcaaDoor
set_option linter.unusedVariables false
set_option linter.unusedSimpArgs false
open Go.RowKit Go.Deep

theorem nat_of {z : Int} (h : 0 ≤ z) : ∃ k : Nat, z = (k : Int) := ⟨z.toNat, by omega⟩
theorem Ap.apart {u w' : World} {base : Nat} {v v' : Value} {xs ys : List Nat} {g : Nat} (h : Ap u w' base v v' ys) (hg : g < u.heap.size) (hv : v.ownBlock ≠ some g) : v'.ownBlock ≠ some g := fun e => by
  rcases h.b g e with q | q
  · exact hv q
  · omega

set_option maxRecDepth 100000 in
set_option maxHeartbeats 6400000 in
theorem appC_nat (base : Nat) (v : Value) (xs : List Nat) (a0 a1 a3 a4 a5 a6 a7 a8 a9 a10 : Nat) (key : ByteArray) (Z : Nat → Prop) (p : Option Addr) (n cap : Nat) (ns : List Nat) (w : World) (ho : Ow w base v xs) (hb : base ≤ w.heap.size) (hf : Fl w Z p (ns.map (fun x : Nat => Value.int .i64 (x : Int)))) (hZ : ∀ b, Z b → v.ownBlock ≠ some b ∧ b < w.heap.size) (hn : n = ns.length)
    (hk : key.size ≤ 8) (hn9 : n ≤ 255) (hs : ∀ x ∈ [a0, a1, a3, a4, a5, a6, a7, a8, a9, a10], x ≤ 1152921504606846976) (h8 : a8 < 4294967296) (hz : ∀ x ∈ ns, x ≤ 15) (hl : xs.length ≤ 100000000) :
    Calls Tryd.prog 24 #[v, .agg (cmdA ⟨(a0 : Int), (a1 : Int), key, (a3 : Int), (a4 : Int), (a5 : Int), (a6 : Int), (a7 : Int), (a8 : Int), (a9 : Int), (a10 : Int)⟩ (.slice p n cap))] w fun e w' => ∃ v', e = .returned v' ∧ Ap w w' base v v' (xs ++ cmdB ⟨a0, a1, a3, a4, a5, a6, a7, a8, a9, a10, keyB key, ns⟩) := by
  simp only [List.mem_cons, List.not_mem_nil, or_false, forall_eq_or_imp, forall_eq] at hs
  obtain ⟨s0, s1, s3, s4, s5, s6, s7, s8, s9, s10⟩ := hs
  have HO : Hid (Ow w base v xs) := ho
  have HF : Hid (Fl w Z p (ns.map (fun x : Nat => Value.int .i64 (x : Int)))) := hf
  have HZ : Hid (∀ b, Z b → v.ownBlock ≠ some b ∧ b < w.heap.size) := hZ
  have HN : Hid (n = ns.length ∧ n ≤ 255 ∧ key.size ≤ 8 ∧ xs.length ≤ 100000000 ∧ base ≤ w.heap.size) := ⟨hn, hn9, hk, hl, hb⟩
  have HSm : Hid (∀ x ∈ [a0, a1, a3, a4, a5, a6, a7, a8, a9, a10], x < 9223372036854775808) := fun x hx => by
    simp only [List.mem_cons, List.not_mem_nil, or_false] at hx
    omega
  have HNz : Hid (∀ x ∈ ns, x < 9223372036854775808) := fun x hx => by have := hz x hx; omega
  have HK0 : Hid (Kp (fun _ => False) w (w.alloc (.cells (cmdA ⟨(a0 : Int), (a1 : Int), key, (a3 : Int), (a4 : Int), (a5 : Int), (a6 : Int), (a7 : Int), (a8 : Int), (a9 : Int), (a10 : Int)⟩ (.slice p n cap)) 27))) := (Kp.refl _ _).alloc _
  have HL0 : Hid (Lv (w.alloc (.cells (cmdA ⟨(a0 : Int), (a1 : Int), key, (a3 : Int), (a4 : Int), (a5 : Int), (a6 : Int), (a7 : Int), (a8 : Int), (a9 : Int), (a10 : Int)⟩ (.slice p n cap)) 27)) w.heap.size (cmdA ⟨(a0 : Int), (a1 : Int), key, (a3 : Int), (a4 : Int), (a5 : Int), (a6 : Int), (a7 : Int), (a8 : Int), (a9 : Int), (a10 : Int)⟩ (.slice p n cap)).toList) := Lv.new w _ _
  have HVg : Hid (v.ownBlock ≠ some w.heap.size) := fun e => by have := (ownBlock_lt ho e).2; omega
  have hks : (key.size : Int) ≤ 8 := by omega
  have hns : (n : Int) ≤ 255 := by omega
  have h8' : (a8 : Int) < 4294967296 := by omega
  clear ho hf hZ hn hn9 hk hl hb hz s0 s1 s3 s4 s5 s6 s7 s8 s9 s10
  go_enter Tryd.func24, Tryd.ntmps24
  go_upto_region 1 with fail
  obtain ⟨u0, hu0⟩ : ∃ x, x = w.alloc (.cells (cmdA ⟨(a0 : Int), (a1 : Int), key, (a3 : Int), (a4 : Int), (a5 : Int), (a6 : Int), (a7 : Int), (a8 : Int), (a9 : Int), (a10 : Int)⟩ (.slice p n cap)) 27) := ⟨_, rfl⟩
  have hu0' := hu0.symm
  simp only [cmdA] at hu0'
  rw [hu0']
  rw [← hu0] at HK0 HL0
  have HU0 : Hid (w.heap.size < u0.heap.size ∧ base ≤ u0.heap.size) := by
    have h1 := HN.out
    have h9 : u0.heap.size = w.heap.size + 1 := by rw [hu0]; simp
    exact ⟨by omega, by omega⟩
  have HA0 : Hid (Ap w u0 base v v xs) := ⟨by rw [hu0]; exact HO.out.alloc _, HK0.out.mono (fun _ _ e => e.elim), fun b e => Or.inl e⟩
  clear hu0 hu0'
  obtain ⟨g, hg⟩ : ∃ x, x = w.heap.size := ⟨_, rfl⟩
  rw [← hg] at HL0 HU0 HVg ⊢
  clear hg
  have c0 : u0.cell? ⟨g, 0, none⟩ = some (.int .i64 (a0 : Int)) := HL0.out.cell (j := 0) rfl
  have c1 : u0.cell? ⟨g, 1, none⟩ = some (.int .i64 (a1 : Int)) := HL0.out.cell (j := 1) rfl
  have c2 : u0.cell? ⟨g, 2, none⟩ = some (.string key) := HL0.out.cell (j := 2) rfl
  have c3 : u0.cell? ⟨g, 3, none⟩ = some (.int .i64 (a3 : Int)) := HL0.out.cell (j := 3) rfl
  have c4 : u0.cell? ⟨g, 4, none⟩ = some (.int .i64 (a4 : Int)) := HL0.out.cell (j := 4) rfl
  have c5 : u0.cell? ⟨g, 5, none⟩ = some (.int .i64 (a5 : Int)) := HL0.out.cell (j := 5) rfl
  have c6 : u0.cell? ⟨g, 6, none⟩ = some (.int .i64 (a6 : Int)) := HL0.out.cell (j := 6) rfl
  have c7 : u0.cell? ⟨g, 7, none⟩ = some (.int .i64 (a7 : Int)) := HL0.out.cell (j := 7) rfl
  have c8 : u0.cell? ⟨g, 8, none⟩ = some (.int .u32 (a8 : Int)) := HL0.out.cell (j := 8) rfl
  have c9 : u0.cell? ⟨g, 9, none⟩ = some (.int .i64 (a9 : Int)) := HL0.out.cell (j := 9) rfl
  have c10 : u0.cell? ⟨g, 10, none⟩ = some (.int .i64 (a10 : Int)) := HL0.out.cell (j := 10) rfl
  have c11 : u0.cell? ⟨g, 11, none⟩ = some (.slice p n cap) := HL0.out.cell (j := 11) rfl
  have H1 : Hid (Calls Tryd.prog 52 #[v, .slice (some ⟨u0.heap.size, 0, none⟩) 10 10] (u0.alloc (.cells #[.int .i64 (a0 : Int), .int .i64 (a1 : Int), .int .i64 (a3 : Int), .int .i64 (a4 : Int), .int .i64 (a5 : Int), .int .i64 (a6 : Int), .int .i64 (a7 : Int), .int .i64 (a8 : Int), .int .i64 (a9 : Int), .int .i64 (a10 : Int)] 3)) fun e w' => ∃ v', e = .returned v' ∧ Ap u0 w' base v v' (xs ++ numsB [a0, a1, a3, a4, a5, a6, a7, a8, a9, a10])) := appN_new base v xs [a0, a1, a3, a4, a5, a6, a7, a8, a9, a10] 10 u0 HA0.out.o HU0.out.2 rfl HSm.out (by have := HN.out; simp; omega)
  go_wp2_with fail
  refine H1.out.mono ?_
  rintro e9 w1 ⟨v1, rfl, h1⟩
  have HA1 : Hid (Ap u0 w1 base v v1 (xs ++ numsB [a0, a1, a3, a4, a5, a6, a7, a8, a9, a10])) := h1
  have HL1 : Hid (Lv w1 g (cmdA ⟨(a0 : Int), (a1 : Int), key, (a3 : Int), (a4 : Int), (a5 : Int), (a6 : Int), (a7 : Int), (a8 : Int), (a9 : Int), (a10 : Int)⟩ (.slice p n cap)).toList) := HL0.out.keep h1.k HVg.out
  have d2 : w1.cell? ⟨g, 2, none⟩ = some (.string key) := HL1.out.cell (j := 2) rfl
  have d11 : w1.cell? ⟨g, 11, none⟩ = some (.slice p n cap) := HL1.out.cell (j := 11) rfl
  have HE1 : Hid ((xs ++ numsB [a0, a1, a3, a4, a5, a6, a7, a8, a9, a10]).length ≤ 100000000 + 90 ∧ base ≤ w1.heap.size) := by
    have h2 := numsB_len [a0, a1, a3, a4, a5, a6, a7, a8, a9, a10] HSm.out
    have := HN.out
    have := h1.k.size
    have := HU0.out
    refine ⟨?_, by omega⟩
    rw [List.length_append]
    simp at h2
    omega
  clear h1 H1
  have H2 : Hid (Calls Tryd.prog 52 #[v1, .slice (some ⟨w1.heap.size, 0, none⟩) 1 1] (w1.alloc (.cells #[.int .i64 (key.size : Int)] 3)) fun e w' => ∃ v', e = .returned v' ∧ Ap w1 w' base v1 v' (xs ++ numsB [a0, a1, a3, a4, a5, a6, a7, a8, a9, a10] ++ numsB [key.size])) := appN_new base v1 (xs ++ numsB [a0, a1, a3, a4, a5, a6, a7, a8, a9, a10]) [key.size] 1 w1 HA1.out.o HE1.out.2 rfl (fun x hx => by rw [List.mem_singleton] at hx; have := HN.out; omega) (by have := HE1.out; simp only [List.length_cons, List.length_nil]; omega)
  go_wp2_with fail
  refine H2.out.mono ?_
  rintro e9 w2 ⟨v2, rfl, h2⟩
  have HA2 : Hid (Ap u0 w2 base v v2 (xs ++ numsB [a0, a1, a3, a4, a5, a6, a7, a8, a9, a10] ++ numsB [key.size])) := HA1.out.trans h2
  have HL2 : Hid (Lv w2 g (cmdA ⟨(a0 : Int), (a1 : Int), key, (a3 : Int), (a4 : Int), (a5 : Int), (a6 : Int), (a7 : Int), (a8 : Int), (a9 : Int), (a10 : Int)⟩ (.slice p n cap)).toList) := HL1.out.keep h2.k (HA1.out.apart (xs := xs) HU0.out.1 HVg.out)
  have f2 : w2.cell? ⟨g, 2, none⟩ = some (.string key) := HL2.out.cell (j := 2) rfl
  have f11 : w2.cell? ⟨g, 11, none⟩ = some (.slice p n cap) := HL2.out.cell (j := 11) rfl
  have HE2 : Hid ((xs ++ numsB [a0, a1, a3, a4, a5, a6, a7, a8, a9, a10] ++ numsB [key.size]).length ≤ 100000000 + 99 ∧ base ≤ w2.heap.size) := by
    have h3 := numsB_len [key.size] (fun x hx => by rw [List.mem_singleton] at hx; have := HN.out; omega)
    have := HE1.out
    have := h2.k.size
    refine ⟨?_, by omega⟩
    rw [List.length_append]
    simp only [List.length_cons, List.length_nil] at h3
    omega
  clear h2 H2
  go_upto_region 4 with (at_builtin; refine wpList_append_key w2 rfl _ _ rfl base v2 (xs ++ numsB [a0, a1, a3, a4, a5, a6, a7, a8, a9, a10] ++ numsB [key.size]) rfl HA2.out.o key rfl (by have := HE2.out; have := HN.out; omega) HE2.out.2 ?_; intro v3 w3 ho3 k3 hb3)
  have HA3 : Hid (Ap u0 w3 base v v3 (xs ++ numsB [a0, a1, a3, a4, a5, a6, a7, a8, a9, a10] ++ numsB [key.size] ++ keyB key)) := HA2.out.trans ⟨ho3, k3, fun b e => by
    rcases hb3 with q | q
    · exact Or.inl (q ▸ e)
    · rw [q] at e
      injection e with e
      exact Or.inr (by omega)⟩
  have HL3 : Hid (Lv w3 g (cmdA ⟨(a0 : Int), (a1 : Int), key, (a3 : Int), (a4 : Int), (a5 : Int), (a6 : Int), (a7 : Int), (a8 : Int), (a9 : Int), (a10 : Int)⟩ (.slice p n cap)).toList) := HL2.out.keep k3 (HA2.out.apart (xs := xs) HU0.out.1 HVg.out)
  have i11 : w3.cell? ⟨g, 11, none⟩ = some (.slice p n cap) := HL3.out.cell (j := 11) rfl
  have HE3 : Hid ((xs ++ numsB [a0, a1, a3, a4, a5, a6, a7, a8, a9, a10] ++ numsB [key.size] ++ keyB key).length ≤ 100000000 + 107 ∧ base ≤ w3.heap.size) := by
    have := HE2.out
    have := HN.out
    have := k3.size
    refine ⟨?_, by omega⟩
    rw [List.length_append, keyB_len]
    omega
  clear ho3 k3 hb3
  have H4 : Hid (Calls Tryd.prog 52 #[v3, .slice (some ⟨w3.heap.size, 0, none⟩) 1 1] (w3.alloc (.cells #[.int .i64 (n : Int)] 3)) fun e w' => ∃ v', e = .returned v' ∧ Ap w3 w' base v3 v' (xs ++ numsB [a0, a1, a3, a4, a5, a6, a7, a8, a9, a10] ++ numsB [key.size] ++ keyB key ++ numsB [n])) := appN_new base v3 (xs ++ numsB [a0, a1, a3, a4, a5, a6, a7, a8, a9, a10] ++ numsB [key.size] ++ keyB key) [n] 1 w3 HA3.out.o HE3.out.2 rfl (fun x hx => by rw [List.mem_singleton] at hx; have := HN.out; omega) (by have := HE3.out; simp only [List.length_cons, List.length_nil]; omega)
  go_wp2_with fail
  refine H4.out.mono ?_
  rintro e9 w4 ⟨v4, rfl, h4⟩
  have HA4 : Hid (Ap u0 w4 base v v4 (xs ++ numsB [a0, a1, a3, a4, a5, a6, a7, a8, a9, a10] ++ numsB [key.size] ++ keyB key ++ numsB [n])) := HA3.out.trans h4
  have HL4 : Hid (Lv w4 g (cmdA ⟨(a0 : Int), (a1 : Int), key, (a3 : Int), (a4 : Int), (a5 : Int), (a6 : Int), (a7 : Int), (a8 : Int), (a9 : Int), (a10 : Int)⟩ (.slice p n cap)).toList) := HL3.out.keep h4.k (HA3.out.apart (xs := xs) HU0.out.1 HVg.out)
  have j11 : w4.cell? ⟨g, 11, none⟩ = some (.slice p n cap) := HL4.out.cell (j := 11) rfl
  have HE4 : Hid ((xs ++ numsB [a0, a1, a3, a4, a5, a6, a7, a8, a9, a10] ++ numsB [key.size] ++ keyB key ++ numsB [n]).length ≤ 100000000 + 116 ∧ base ≤ w4.heap.size) := by
    have h5 := numsB_len [n] (fun x hx => by rw [List.mem_singleton] at hx; have := HN.out; omega)
    have := HE3.out
    have := h4.k.size
    refine ⟨?_, by omega⟩
    rw [List.length_append]
    simp only [List.length_cons, List.length_nil] at h5
    omega
  clear h4 H4
  have HF4 : Hid (Fl w4 Z p (ns.map (fun x : Nat => Value.int .i64 (x : Int)))) := (HF.out.keep HA0.out.k (fun b hb2 => (HZ.out b hb2).1)).keep HA4.out.k (fun b hb2 => (HZ.out b hb2).1)
  have HZ4 : Hid (∀ b, Z b → v4.ownBlock ≠ some b ∧ b < w4.heap.size) := fun b hb2 => by
    have h1 := HZ.out b hb2
    have h2 := HK0.out.size
    have h3 := HA4.out.k.size
    exact ⟨HA4.out.apart (xs := xs) (by omega) h1.1, by omega⟩
  have H5 : Hid (Calls _ _ _ w4 _) := appN_ok Z base v4 (xs ++ numsB [a0, a1, a3, a4, a5, a6, a7, a8, a9, a10] ++ numsB [key.size] ++ keyB key ++ numsB [n]) ns p n cap w4 HA4.out.o HE4.out.2 HF4.out HZ4.out HN.out.1 HNz.out (by have := HE4.out; have := HN.out; omega)
  go_wp2_with fail
  refine H5.out.mono ?_
  rintro e9 w5 ⟨v5, rfl, h5⟩
  have HA5 : Hid (Ap w w5 base v v5 (xs ++ numsB [a0, a1, a3, a4, a5, a6, a7, a8, a9, a10] ++ numsB [key.size] ++ keyB key ++ numsB [n] ++ numsB ns)) := HA0.out.trans (HA4.out.trans h5)
  clear h5 H5
  go_wp2
  go_ret
  refine ⟨v5, rfl, ?_⟩
  have := HA5.out
  unfold cmdB
  rw [show [a0, a1, a3, a4, a5, a6, a7, a8, a9, a10, (keyB key).length] = [a0, a1, a3, a4, a5, a6, a7, a8, a9, a10] ++ [(keyB key).length] from rfl, numsB_append, keyB_len]
  dsimp only
  rw [← HN.out.1, ← numsB_one n]
  simp only [List.append_assoc] at this ⊢
  exact this
end Go.Proofs.YtoepemgflbmlcaaDoor
