/- Texts of this proof, joined: Nc, Qm, Qg. -/
import Derived.Test.YtmooddbhcccicaaGreatDoorMgAO
import Derived.Test.YtmooddbhcccicaaGreatDoorMgAA
import Derived.Deep.WholeRow
import Derived.Deep.MidRow
import Derived.Maps.OwnSet
import Derived.Maps.OwnOps
import Derived.Maps.RangeWalk
import Derived.Maps.Views
import Derived.StillTailTactics
import Derived.Lib.MinMax
import Derived.Lib.SmallJoins
/- Commands as bytes, plain: reading. -/
namespace Go.Proofs.YtmooddbhcccicaaGreatDoor
set_option linter.unusedVariables false

theorem rdText_num {most : Nat} (hm : most < 256 ^ 8) {s : List Nat} (hs : s.length ≤ most) (t : List Nat) : rdText most (numB s.length ++ (s ++ t)) = some (s, t) := by
  unfold rdText
  rw [rdNum_num hs (by omega)]
  dsimp only
  rw [if_pos (by rw [List.length_append]; omega), List.take_left' rfl, List.drop_left' rfl]
theorem rdText_back {most : Nat} {xs s t : List Nat} (hb : ∀ x ∈ xs, x < 256) (h : rdText most xs = some (s, t)) : xs = numB s.length ++ (s ++ t) ∧ s.length ≤ most ∧ (∀ x ∈ s, x < 256) ∧ ∀ x ∈ t, x < 256 := by
  unfold rdText at h
  cases hq : rdNum most xs with
  | none => rw [hq] at h; cases h
  | some p =>
    obtain ⟨n, u⟩ := p
    rw [hq] at h
    dsimp only at h
    obtain ⟨e1, e2, e3, e4⟩ := rdNum_back hb hq
    by_cases hn : n ≤ u.length
    · rw [if_pos hn] at h
      injection h with h
      injection h with h1 h2
      have hl : s.length = n := by rw [← h1, List.length_take]; omega
      refine ⟨?_, by omega, fun x hx => ?_, fun x hx => ?_⟩
      · rw [e1, hl, ← h1, ← h2, List.take_append_drop]
      · rw [← h1] at hx; exact e4 x (List.mem_of_mem_take hx)
      · rw [← h2] at hx; exact e4 x (List.mem_of_mem_drop hx)
    · rw [if_neg hn] at h
      cases h
/-- a command, and what is left -/
def rdCmd (xs : List Nat) : Option (Cp × List Nat) :=
  (rdNums mx 7 xs).bind fun p => (rdNum 4294967295 p.2).bind fun q => (rdNums mx 2 q.2).bind fun r => (rdText 8 r.2).bind fun s => (rdNum 255 s.2).bind fun n => (rdNums mx n.1 n.2).bind fun l =>
    some (⟨p.1.getD 0 0, p.1.getD 1 0, p.1.getD 2 0, p.1.getD 3 0, p.1.getD 4 0, p.1.getD 5 0, p.1.getD 6 0, q.1, r.1.getD 0 0, r.1.getD 1 0, s.1, l.1⟩, l.2)
/-- numbers that are small enough to be written -/
structure Cp.fit (c : Cp) : Prop where
  n : ∀ x ∈ [c.id, c.kind, c.blob, c.other, c.index, c.node, c.size, c.k, c.m], x ≤ mx
  s : c.sum ≤ 4294967295
  k : c.key.length ≤ 8
  l : c.nodes.length ≤ 255
  v : ∀ x ∈ c.nodes, x ≤ mx
theorem numsB_append (l m : List Nat) : numsB (l ++ m) = numsB l ++ numsB m := by unfold numsB; rw [List.flatMap_append]
theorem numsB_one (n : Nat) : numsB [n] = numB n := by simp [numsB]
theorem cmdB_parts (c : Cp) (t : List Nat) : cmdB c ++ t = numsB [c.id, c.kind, c.blob, c.other, c.index, c.node, c.size] ++ (numB c.sum ++ (numsB [c.k, c.m] ++ (numB c.key.length ++ (c.key ++ (numB c.nodes.length ++ (numsB c.nodes ++ t)))))) := by
  unfold cmdB
  rw [show [c.id, c.kind, c.blob, c.other, c.index, c.node, c.size, c.sum, c.k, c.m, c.key.length] = [c.id, c.kind, c.blob, c.other, c.index, c.node, c.size] ++ ([c.sum] ++ ([c.k, c.m] ++ [c.key.length])) from rfl]
  simp only [numsB_append, numsB_one, List.append_assoc]
theorem rdCmd_num {c : Cp} (h : c.fit) (t : List Nat) : rdCmd (cmdB c ++ t) = some (c, t) := by
  have hm : mx < 256 ^ 8 := by decide
  have hn := h.n
  simp only [List.mem_cons, List.not_mem_nil, or_false, forall_eq_or_imp, forall_eq] at hn
  unfold rdCmd
  rw [cmdB_parts, show (7 : Nat) = [c.id, c.kind, c.blob, c.other, c.index, c.node, c.size].length from rfl, rdNums_num hm _ _ (fun x hx => h.n x (by simp only [List.mem_cons, List.not_mem_nil, or_false] at hx ⊢; omega))]
  dsimp only [Option.bind_some]
  rw [rdNum_num h.s (by have := h.s; omega)]
  dsimp only [Option.bind_some]
  rw [show (2 : Nat) = [c.k, c.m].length from rfl, rdNums_num hm _ _ (fun x hx => h.n x (by simp only [List.mem_cons, List.not_mem_nil, or_false] at hx ⊢; omega))]
  dsimp only [Option.bind_some]
  rw [rdText_num (by decide) h.k]
  dsimp only [Option.bind_some]
  rw [rdNum_num h.l (by have := h.l; omega)]
  dsimp only [Option.bind_some]
  rw [rdNums_num hm _ _ h.v]
  rfl
theorem list7 {l : List Nat} (h : l.length = 7) : l = [l.getD 0 0, l.getD 1 0, l.getD 2 0, l.getD 3 0, l.getD 4 0, l.getD 5 0, l.getD 6 0] := by
  match l, h with
  | [a, b, c, d, e, f, g], _ => rfl
theorem list2 {l : List Nat} (h : l.length = 2) : l = [l.getD 0 0, l.getD 1 0] := by
  match l, h with
  | [a, b], _ => rfl
theorem rdCmd_back {c : Cp} {xs t : List Nat} (hb : ∀ x ∈ xs, x < 256) (h : rdCmd xs = some (c, t)) : xs = cmdB c ++ t ∧ c.fit ∧ ∀ x ∈ t, x < 256 := by
  unfold rdCmd at h
  obtain ⟨⟨l1, t1⟩, h1, h⟩ := Option.bind_eq_some_iff.1 h
  obtain ⟨⟨n2, t2⟩, h2, h⟩ := Option.bind_eq_some_iff.1 h
  obtain ⟨⟨l3, t3⟩, h3, h⟩ := Option.bind_eq_some_iff.1 h
  obtain ⟨⟨s4, t4⟩, h4, h⟩ := Option.bind_eq_some_iff.1 h
  obtain ⟨⟨n5, t5⟩, h5, h⟩ := Option.bind_eq_some_iff.1 h
  obtain ⟨⟨l6, t6⟩, h6, h⟩ := Option.bind_eq_some_iff.1 h
  dsimp only at h1 h2 h3 h4 h5 h6 h
  obtain ⟨a1, a2, a3, a4⟩ := rdNums_back 7 _ _ _ hb h1
  obtain ⟨b1, b2, b3, b4⟩ := rdNum_back a4 h2
  obtain ⟨c1, c2, c3, c4⟩ := rdNums_back 2 _ _ _ b4 h3
  obtain ⟨d1, d2, d3, d4⟩ := rdText_back c4 h4
  obtain ⟨e1, e2, e3, e4⟩ := rdNum_back d4 h5
  obtain ⟨f1, f2, f3, f4⟩ := rdNums_back n5 _ _ _ e4 h6
  injection h with h
  injection h with hc ht
  subst ht
  have q1 := list7 a2
  have q3 := list2 c2
  subst hc
  refine ⟨?_, ⟨?_, b2, d2, (by show l6.length ≤ 255; omega), fun x hx => (f3 x hx).1⟩, f4⟩
  · rw [cmdB_parts]
    dsimp only
    rw [← q1, ← q3, f2, ← f1, ← e1, ← d1, ← c1, ← b1, ← a1]
  · intro x hx
    have m1 : ∀ y ∈ l1, y ≤ mx := fun y hy => (a3 y hy).1
    have m3 : ∀ y ∈ l3, y ≤ mx := fun y hy => (c3 y hy).1
    rw [q1] at m1
    rw [q3] at m3
    simp only [List.mem_cons, List.not_mem_nil, or_false, forall_eq_or_imp, forall_eq] at m1 m3 hx
    rcases hx with rfl | rfl | rfl | rfl | rfl | rfl | rfl | rfl | rfl
    · exact m1.1
    · exact m1.2.1
    · exact m1.2.2.1
    · exact m1.2.2.2.1
    · exact m1.2.2.2.2.1
    · exact m1.2.2.2.2.2.1
    · exact m1.2.2.2.2.2.2
    · exact m3.1
    · exact m3.2
end Go.Proofs.YtmooddbhcccicaaGreatDoor

/- Packets in a map by their numbers; whatever values they have. -/
namespace Go.Proofs.YtmooddbhcccicaaGreatDoor
set_option linter.unusedVariables false
open Go.RowKit Go.Deep Go.Maps

/-- a value reads as itself -/
def idR (v : Value) : Option (DataW Value × List MemPlace) := some (.held v, [])
abbrev ikq (i : Nat) : Lit := .int .i64 (i : Int)
theorem ikq_inj {i j : Nat} (h : ikq i = ikq j) : i = j := by injection h with _ h; exact Int.natCast_inj.1 h
theorem ikq_lit (i : Nat) : WideAt.IsKeyLit (ikq i) := trivial
theorem intLaw : Keyed Tryz.prog 3 := int_keyed Tryz.underlying3
/-- what is there under a number -/
def Tzq (T : Nat → Option Value) (id : Int) : Option Value := if 0 ≤ id then T id.toNat else none
theorem Tzq_nat (T : Nat → Option Value) (i : Nat) : Tzq T (i : Int) = T i := by unfold Tzq; rw [if_pos (by omega), Int.toNat_natCast]

/-- what D says of keys below n: T, c of them -/
def Qd (D : DataW Value) (n c : Nat) (T : Nat → Option Value) : Prop :=
  (∀ i, i < n → (T i = none → Maps.has D (ikq i) = false) ∧ ∀ v, T i = some v → Maps.has D (ikq i) = true ∧ ∀ z, D.atKey (ikq i) z = .held v) ∧ (∀ kl, Maps.has D kl = true → ∃ i, i < n ∧ kl = ikq i) ∧ (∀ i, n ≤ i → T i = none) ∧ Maps.size D = c
/-- block m is a map of c values, under numbers below n -/
def Qm (w : World) (m q n c : Nat) (T : Nat → Option Value) : Prop := ∃ D, w.ownsMap Tryz.prog 3 idR m q D ∧ Qd D n c T
theorem Qm.lt {w : World} {m q n c : Nat} {T : Nat → Option Value} (h : Qm w m q n c T) : m < w.heap.size := by
  obtain ⟨D, h1, h2⟩ := h
  exact h1.lt
theorem Qm.keep {S : Nat → Prop} {w w' : World} {m q n c : Nat} {T : Nat → Option Value} (h : Qm w m q n c T) (k : Kp S w w') (hS : ¬ S m) : Qm w' m q n c T := by
  have hlt := h.lt
  obtain ⟨D, ⟨es, clock, hb, r⟩, h2⟩ := h
  exact ⟨D, ⟨es, clock, (k.block m hlt hS).trans hb, r⟩, h2⟩
theorem Qm.made (w : World) (n : Nat) : Qm (w.alloc (.map #[] 0)) w.heap.size 0 n 0 (fun _ => none) :=
  ⟨_, World.ownsMap_made w _ _ _, fun i _ => ⟨fun _ => rfl, fun v h => (by cases h)⟩, fun kl h => (by cases h), fun _ _ => rfl, rfl⟩
theorem Qd.put {D : DataW Value} {n c : Nat} {T : Nat → Option Value} {v : Value} (hT : Tidy D) (h : Qd D n c T) : Qd (D.put (ikq n) (.held v)) (n + 1) (c + 1) (fun j => if j = n then some v else T j) := by
  have hM := hT.isMap
  obtain ⟨h1, h2, h3, h4⟩ := h
  have hno : Maps.has D (ikq n) = false := by
    cases hh : Maps.has D (ikq n) with
    | false => rfl
    | true =>
      obtain ⟨i, hi, e⟩ := h2 _ hh
      have := ikq_inj e
      omega
  refine ⟨fun j hj => ?_, fun kl hk => ?_, fun j hj => ?_, ?_⟩
  · by_cases e : j = n
    · subst e
      simp only [if_true]
      exact ⟨fun h => (by cases h), fun u hu => (by cases hu; exact ⟨has_put_same hM (ikq_lit _) _, fun z => atKey_put_same hM (ikq_lit _) _ z⟩)⟩
    · have hne : ikq j ≠ ikq n := fun h => e (ikq_inj h)
      simp only [if_neg e]
      refine ⟨fun h => by rw [has_put_other hne]; exact (h1 j (by omega)).1 h, fun u hu => ?_⟩
      obtain ⟨b, c⟩ := (h1 j (by omega)).2 u hu
      exact ⟨by rw [has_put_other hne]; exact b, fun z => by rw [atKey_put_other hne]; exact c z⟩
  · by_cases e : kl = ikq n
    · exact ⟨n, by omega, e⟩
    · rw [has_put_other e] at hk
      obtain ⟨i, hi, e2⟩ := h2 kl hk
      exact ⟨i, by omega, e2⟩
  · show (if j = n then some v else T j) = none
    rw [if_neg (by omega)]
    exact h3 j (by omega)
  · rw [size_put hT, hno, h4]; rfl
theorem Qd.del {D : DataW Value} {n c i : Nat} {T : Nat → Option Value} {v : Value} (hT : Tidy D) (h : Qd D n c T) (hv : T i = some v) (hi : i < n) : Qd (D.del (ikq i)) n (c - 1) (fun j => if j = i then none else T j) := by
  obtain ⟨h1, h2, h3, h4⟩ := h
  have hh := ((h1 i hi).2 v hv).1
  refine ⟨fun j hj => ?_, fun kl hk => ?_, fun j hj => ?_, ?_⟩
  · by_cases e : j = i
    · subst e
      simp only [if_true]
      exact ⟨fun _ => has_del_same, fun u hu => (by cases hu)⟩
    · have hne : ikq j ≠ ikq i := fun h => e (ikq_inj h)
      simp only [if_neg e]
      refine ⟨fun h => by rw [has_del_other hne]; exact (h1 j hj).1 h, fun u hu => ?_⟩
      obtain ⟨b, c⟩ := (h1 j hj).2 u hu
      exact ⟨by rw [has_del_other hne]; exact b, fun z => by rw [atKey_del_other hne]; exact c z⟩
  · by_cases e : kl = ikq i
    · rw [e, has_del_same] at hk; cases hk
    · rw [has_del_other e] at hk
      exact h2 kl hk
  · show (if j = i then none else T j) = none
    by_cases e : j = i
    · rw [if_pos e]
    · rw [if_neg e]; exact h3 j hj
  · have := size_del hT (k := ikq i)
    rw [hh, h4] at this
    simp at this
    omega
theorem Qd.look {D : DataW Value} {n c : Nat} {T : Nat → Option Value} (h : Qd D n c T) (id : Int) (z : Value) : Maps.has D (.int .i64 id) = (Tzq T id).isSome ∧ D.atKey (.int .i64 id) (.held z) = .held ((Tzq T id).getD z) := by
  obtain ⟨h1, h2, h3, h4⟩ := h
  have absent : Maps.has D (.int .i64 id) = false → D.atKey (.int .i64 id) (.held z) = .held z := fun hh => atKey_of_not_has hh _
  unfold Tzq
  by_cases h0 : 0 ≤ id
  · rw [if_pos h0]
    obtain ⟨i, rfl⟩ : ∃ i : Nat, id = (i : Int) := ⟨id.toNat, by omega⟩
    rw [Int.toNat_natCast]
    by_cases hi : i < n
    · cases hT : T i with
      | none => exact ⟨(h1 i hi).1 hT, absent ((h1 i hi).1 hT)⟩
      | some v => exact ⟨((h1 i hi).2 v hT).1, ((h1 i hi).2 v hT).2 _⟩
    · have hT := h3 i (by omega)
      have hh : Maps.has D (.int .i64 (i : Int)) = false := by
        cases hh : Maps.has D (.int .i64 (i : Int)) with
        | false => rfl
        | true =>
          obtain ⟨j, hj, e⟩ := h2 _ hh
          have := ikq_inj e
          omega
      rw [hT]
      exact ⟨hh, absent hh⟩
  · rw [if_neg h0]
    have hh : Maps.has D (.int .i64 id) = false := by
      cases hh : Maps.has D (.int .i64 id) with
      | false => rfl
      | true =>
        obtain ⟨j, hj, e⟩ := h2 _ hh
        injection e with _ e
        omega
    exact ⟨hh, absent hh⟩
end Go.Proofs.YtmooddbhcccicaaGreatDoor

/- Lists in memory, flat; copies of commands. -/
namespace Go.Proofs.YtmooddbhcccicaaGreatDoor
set_option linter.unusedVariables false
open Go.RowKit Go.Deep Go.Maps

/-- the cells of a slice's elements, one behind the other, in blocks of which Z holds -/
def Fl (w : World) (Z : Nat → Prop) (p : Option Addr) (cells : List Value) : Prop := ∀ j u, cells[j]? = some u → ∃ b o, p = some ⟨b, o, none⟩ ∧ Z b ∧ w.cell? ⟨b, o + j, none⟩ = some u
theorem Fl.keep {S Z : Nat → Prop} {w w' : World} {p : Option Addr} {cells : List Value} (h : Fl w Z p cells) (k : Kp S w w') (hS : ∀ b, Z b → ¬ S b) : Fl w' Z p cells := fun j u hu => by
  obtain ⟨b, o, e, hz, hc⟩ := h j u hu
  exact ⟨b, o, e, hz, k.cellv hc (hS b hz)⟩
theorem Fl.mono {Z Z' : Nat → Prop} {w : World} {p : Option Addr} {cells : List Value} (h : Fl w Z p cells) (hz : ∀ b, Z b → Z' b) : Fl w Z' p cells := fun j u hu => by
  obtain ⟨b, o, e, hz', hc⟩ := h j u hu
  exact ⟨b, o, e, hz b hz', hc⟩
theorem Fl.src {Z : Nat → Prop} {w : World} {p : Option Addr} {cells : List Value} (h : Fl w Z p cells) {sz n c : Nat} {tx e' : TypeId} (hk : Tryz.prog.underlying tx = some (.slice e')) (hs : 0 < sz) (hl : cells.length = n * sz) (h1 : ∀ u ∈ cells, u.oneCell' = true) : Src Tryz.prog sz tx (.slice p n c) n cells w := by
  cases p with
  | none =>
    have h0 : cells = [] := by
      cases cells with
      | nil => rfl
      | cons x l => obtain ⟨b, o, e, _⟩ := h 0 x rfl; cases e
    subst h0
    have hn : n = 0 := by
      rcases Nat.eq_zero_or_pos n with h0 | h0
      · exact h0
      · have := Nat.mul_pos h0 hs; simp at hl; omega
    subst hn
    exact Src.ofNil w hk c
  | some a =>
    refine Src.ofSlice w hk a n c cells hl (fun j u hj => ?_) h1
    obtain ⟨b, o, e, _, hc⟩ := h j u hj
    cases e
    rw [Addr.add_mid]
    exact hc
theorem own_fl {w : World} {base sz n : Nat} {e : TypeId} {v : Value} {cells : List Value} (h : w.ownsRow base e sz v n cells) : ∃ q cap, v = .slice q n cap ∧ Fl w (fun b => base ≤ b ∧ b < w.heap.size) q cells := by
  rcases Joins.ownsRow_forms h with ⟨e1, e2⟩ | ⟨g, cap, e1⟩
  · have hl := h.1
    rw [e2, Nat.zero_mul] at hl
    have h0 := List.eq_nil_of_length_eq_zero hl
    exact ⟨none, 0, by rw [e1, e2], fun j u hu => by rw [h0] at hu; cases hu⟩
  · refine ⟨_, cap, e1, fun j u hu => ⟨g, 0, rfl, ownBlock_lt h (by rw [e1]; rfl), ?_⟩⟩
    have := h.cells (g := g) (by rw [e1]; rfl) j u hu
    rw [Addr.add_mid] at this
    exact this

theorem infoInt : (Tryz.prog.info? 3).map (fun i => (i.zero, i.size, i.bytes)) = some (some (.int .i64 0), 1, 8) := by kernel_rfl
abbrev encI (z : Int) : Value := .int .i64 z

end Go.Proofs.YtmooddbhcccicaaGreatDoor
