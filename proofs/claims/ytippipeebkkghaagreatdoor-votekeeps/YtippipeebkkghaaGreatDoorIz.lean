/- Held: the whole of it. -/
import Derived.Test.YtippipeebkkghaaGreatDoorIy
import Derived.Deep.AppendSrc
namespace Go.Proofs.YtippipeebkkghaaGreatDoor
set_option linter.unusedVariables false
set_option linter.unusedSimpArgs false
open Go.RowKit Go.Deep Go.Maps

/-- the cells of what is held -/
def hfl (ps : List (Rc × Value)) : List Value := ps.flatMap fun z => [.int .i64 (z.1.n : Int), .int .i64 (z.1.i : Int), z.2]

theorem hfl_app (a b : List (Rc × Value)) : hfl (a ++ b) = hfl a ++ hfl b := by unfold hfl; rw [List.flatMap_append]

/-- a row of what is held, of one's own, each in bytes of one's own -/
def Hr (w : World) (base : Nat) (v : Value) (ps : List (Rc × Value)) : Prop := w.ownsRow base 227 3 v ps.length (hfl ps) ∧ ∀ z ∈ ps, Ow w base z.2 z.1.b ∧ (∀ x ∈ z.1.b, x < 256) ∧ ∀ b, v.ownBlock = some b → z.2.ownBlock ≠ some b

theorem Hr.nil (w : World) (base : Nat) : Hr w base (.slice none 0 0) [] := ⟨World.ownsRow_nil _ _ _ _, fun z h => absurd h List.not_mem_nil⟩

theorem Hr.keep0 {w w' : World} {base : Nat} {v : Value} {ps : List (Rc × Value)} (h : Hr w base v ps) (k : Kp (fun _ => False) w w') : Hr w' base v ps :=
  ⟨ownsRow_keep h.1 k (fun _ _ e => e), fun z hz => ⟨ownsRow_keep (h.2 z hz).1 k (fun _ _ e => e), (h.2 z hz).2⟩⟩

theorem Hr.keep {S : Nat → Prop} {w w' : World} {base : Nat} {v : Value} {ps : List (Rc × Value)} (h : Hr w base v ps) (k : Kp S w w') (hS : ∀ b, base ≤ b → ¬ S b) : Hr w' base v ps :=
  ⟨ownsRow_keep h.1 k (fun b hb => hS b (ownBlock_lt h.1 hb).1), fun z hz => ⟨ownsRow_keep (h.2 z hz).1 k (fun b hb => hS b (ownBlock_lt (h.2 z hz).1 hb).1), (h.2 z hz).2⟩⟩

theorem Hr.base {w : World} {base base' : Nat} {v : Value} {ps : List (Rc × Value)} (h : Hr w base v ps) (hb : base' ≤ base) : Hr w base' v ps :=
  ⟨ownsRow_base h.1 hb, fun z hz => ⟨ownsRow_base (h.2 z hz).1 hb, (h.2 z hz).2⟩⟩

theorem Hr.app {w w' : World} {base : Nat} {v v' u : Value} {ps : List (Rc × Value)} {r : Rc} (h : Hr w base v ps) (hu : Ow w base u r.b) (hx : ∀ x ∈ r.b, x < 256) (hub : ∀ b, v.ownBlock = some b → u.ownBlock ≠ some b)
    (o : w'.ownsRow base 227 3 v' (ps.length + 1) (hfl ps ++ [.int .i64 (r.n : Int), .int .i64 (r.i : Int), u])) (k : Kp (fun b => v.ownBlock = some b) w w') (hv : v'.ownBlock = v.ownBlock ∨ v'.ownBlock = some w.heap.size) : Hr w' base v' (ps ++ [(r, u)]) := by
  have key : ∀ x z, Ow w base z x → (∀ b, v.ownBlock = some b → z.ownBlock ≠ some b) → Ow w' base z x ∧ ∀ b, v'.ownBlock = some b → z.ownBlock ≠ some b := fun x z ho hb => by
    refine ⟨ownsRow_keep ho k (fun g e e2 => hb g e2 e), fun b e e2 => ?_⟩
    rcases hv with e9 | e9
    · exact hb b (e9.symm.trans e) e2
    · rw [e9] at e
      have := (ownBlock_lt ho e2).2
      injection e with e
      omega
  refine ⟨by rw [List.length_append, hfl_app]; exact o, fun z hz => ?_⟩
  rcases List.mem_append.1 hz with hz | hz
  · obtain ⟨h1, h2, h3⟩ := h.2 z hz
    obtain ⟨h4, h5⟩ := key _ _ h1 h3
    exact ⟨h4, h2, h5⟩
  · rw [List.mem_singleton.1 hz]
    obtain ⟨h4, h5⟩ := key _ _ hu hub
    exact ⟨h4, hx, h5⟩

theorem infoH0 : (Tryz.prog.info? 227).map (fun i => (i.zero.map (·.cells.size), i.size, i.bytes)) = some (some 3, 3, 40) := by kernel_rfl

theorem infoH : ∃ i z, Tryz.prog.info? 227 = some i ∧ i.zero = some z ∧ i.size = 3 ∧ i.bytes = 40 ∧ z.cells.size = 3 := by
  obtain ⟨i, hi, he⟩ := Option.map_eq_some_iff.1 infoH0
  simp only [Prod.mk.injEq] at he
  obtain ⟨h1, h2, h3⟩ := he
  obtain ⟨z, hz, h4⟩ := Option.map_eq_some_iff.1 h1
  exact ⟨i, z, hi, hz, h2, h3, h4⟩

/-- append of one -/
theorem run_app_held (w : World) (base : Nat) (v : Value) (n : Nat) (xs : List Value) (hown : w.ownsRow base 227 3 v n xs) (g : Nat) (a b c : Value) (h1 : a.oneCell' = true ∧ b.oneCell' = true ∧ c.oneCell' = true) (c0 : w.cell? ⟨g, 0, none⟩ = some a) (c1 : w.cell? ⟨g, 1, none⟩ = some b) (c2 : w.cell? ⟨g, 2, none⟩ = some c) (hlen : n ≤ 100000) (hbase : base ≤ w.heap.size) :
    ∃ v' w', (Builtin.append_ #[160, 160] 160 #[v, .slice (some ⟨g, 0, none⟩) 1 1]).run Tryz.prog w = .ok v' w' ∧ w'.ownsRow base 227 3 v' (n + 1) (xs ++ [a, b, c]) ∧ Kp (fun b => v.ownBlock = some b) w w' ∧ (v'.ownBlock = v.ownBlock ∨ v'.ownBlock = some w.heap.size) := by
  obtain ⟨ti, tz, hi0, hz0, hz1, hz2, hz3⟩ := infoH
  obtain ⟨v', w', hrun, h2, h3, h4⟩ := run_append_own_src (P := Tryz.prog) w base 160 160 160 227 ti tz 3 40 Tryz.underlying160 hi0 hz0 hz1 hz2 hz3 (by decide) v n xs hown _ 1 [a, b, c]
    (Src.ofSlice w Tryz.underlying160 ⟨g, 0, none⟩ 1 1 [a, b, c] (by simp) (fun j z hj => by
      rw [Addr.add_mid, Nat.zero_add]
      match j, hj with
      | 0, hj => simp at hj; subst hj; exact c0
      | 1, hj => simp at hj; subst hj; exact c1
      | 2, hj => simp at hj; subst hj; exact c2) (fun z hz => by
      simp at hz
      rcases hz with rfl | rfl | rfl
      · exact h1.1
      · exact h1.2.1
      · exact h1.2.2)) (by unfold maxLen; omega) (by omega) hbase
  exact ⟨v', w', hrun, h2, grownBy_kp h3, h4⟩

/-- the records that are held, in order -/
def hldL (h : List Rc) (ss : List K3) : List Rc := ss.filterMap fun x => if x.k = 1 then (stS h).1 x else none

theorem hldL_snoc (h : List Rc) (ss : List K3) (x : K3) : hldL h (ss ++ [x]) = hldL h ss ++ (match (if x.k = 1 then (stS h).1 x else none) with | some o => [o] | none => []) := by
  unfold hldL
  rw [List.filterMap_append]
  congr 1
  cases hx : (if x.k = 1 then (stS h).1 x else none) <;> simp [hx]

theorem srt3_mem (l : List K3) (x : K3) : x ∈ srt3 l ↔ x ∈ l := (List.mergeSort_perm _ _).mem_iff

theorem take_snoc3 (l : List K3) (j : Nat) (hj : j < l.length) : l.take (j + 1) = l.take j ++ [l.getD j default] := by
  rw [List.take_add_one, List.getD_eq_getElem?_getD, List.getElem?_eq_getElem hj]
  rfl

set_option maxRecDepth 100000 in
set_option maxHeartbeats 1600000 in
/-- what the drawn region asks of its clone and its append -/
theorem held_step {y wr : World} {base : Nat} {v : Value} {ps : List (Rc × Value)} {r : Rc} (hH : Hr wr base v ps) (hb : base ≤ wr.heap.size) (hn : ps.length ≤ 100000) (q : Nat) (p : Option Addr) (cp : Nat) (k0 : Kp (fun _ => False) wr y) (hq : wr.heap.size ≤ q ∧ q < y.heap.size)
    (c1 : y.cell? ⟨q, 1, none⟩ = some (.int .i64 (r.n : Int))) (c2 : y.cell? ⟨q, 2, none⟩ = some (.int .i64 (r.i : Int))) (c4 : y.cell? ⟨q, 4, none⟩ = some (.slice p r.b.length cp)) (hr : Rb y p r.b.length r.b) (hg : r.b.length ≤ 1980) :
    Calls Tryz.prog 51 #[.slice p r.b.length cp] y fun e w9 => ∃ pu cu xh v2 w2, e = .returned (.slice pu r.b.length cu) ∧ (w9.cell? ⟨q, 1, none⟩ = some (.int .i64 (r.n : Int)) ∧ w9.cell? ⟨q, 2, none⟩ = some (.int .i64 (r.i : Int)) ∧ w9.cell? ⟨q, 4, none⟩ = some (.slice p r.b.length cp)) ∧ xh = w9.heap.size ∧
      ((w9.alloc (.cells #[.int .i64 (r.n : Int), .int .i64 (r.i : Int), .slice pu r.b.length cu] 227)).cell? ⟨q, 1, none⟩ = some (.int .i64 (r.n : Int)) ∧ (w9.alloc (.cells #[.int .i64 (r.n : Int), .int .i64 (r.i : Int), .slice pu r.b.length cu] 227)).cell? ⟨q, 2, none⟩ = some (.int .i64 (r.i : Int)) ∧ (w9.alloc (.cells #[.int .i64 (r.n : Int), .int .i64 (r.i : Int), .slice pu r.b.length cu] 227)).cell? ⟨q, 4, none⟩ = some (.slice p r.b.length cp)) ∧
      (Builtin.append_ #[160, 160] 160 #[v, .slice (some ⟨xh, 0, none⟩) 1 1]).run Tryz.prog (w9.alloc (.cells #[.int .i64 (r.n : Int), .int .i64 (r.i : Int), .slice pu r.b.length cu] 227)) = .ok v2 w2 ∧
      (w2.cell? ⟨q, 1, none⟩ = some (.int .i64 (r.n : Int)) ∧ w2.cell? ⟨q, 2, none⟩ = some (.int .i64 (r.i : Int)) ∧ w2.cell? ⟨q, 4, none⟩ = some (.slice p r.b.length cp)) ∧
      (∃ u, Hr w2 base v2 (ps ++ [(r, u)])) ∧ Kp (fun b => v.ownBlock = some b) wr w2 := by
  refine (clone_any p r.b.length cp r.b y hr (show r.b.length ≤ 140737488355328 by omega)).mono ?_
  rintro e9 w9 ⟨u, rfl, k9, o9⟩
  obtain ⟨pu, cu, rfl⟩ := own_form o9
  obtain ⟨w8, hw8⟩ : ∃ z, z = w9.alloc (.cells #[.int .i64 (r.n : Int), .int .i64 (r.i : Int), .slice pu r.b.length cu] 227) := ⟨_, rfl⟩
  have k8 : Kp (fun _ => False) w9 w8 := by rw [hw8]; exact (Kp.refl _ _).alloc _
  have l8 : Lv w8 w9.heap.size [.int .i64 (r.n : Int), .int .i64 (r.i : Int), .slice pu r.b.length cu] := by rw [hw8]; exact Lv.new w9 _ _
  have kr8 : Kp (fun _ => False) wr w8 := (k0.trans k9 (fun _ _ e => e)).trans k8 (fun _ _ e => e)
  have h8 := hH.keep0 kr8
  have z0 := k0.size
  have z9 := k9.size
  have z8 := k8.size
  obtain ⟨v2, w2, hrun, ho, kp, hv⟩ := run_app_held w8 base v ps.length (hfl ps) h8.1 w9.heap.size (.int .i64 (r.n : Int)) (.int .i64 (r.i : Int)) (.slice pu r.b.length cu) ⟨rfl, rfl, rfl⟩ (l8.cell (j := 0) rfl) (l8.cell (j := 1) rfl) (l8.cell (j := 2) rfl) hn (by omega)
  have hvq : ∀ x, wr.heap.size ≤ x → ¬ v.ownBlock = some x := fun x hx e => by
    have := (ownBlock_lt hH.1 e).2
    omega
  have k9c : ∀ j u, y.cell? ⟨q, j, none⟩ = some u → w9.cell? ⟨q, j, none⟩ = some u := fun j u hc => k9.cellv hc id
  have k8c : ∀ j u, y.cell? ⟨q, j, none⟩ = some u → w8.cell? ⟨q, j, none⟩ = some u := fun j u hc => k8.cellv (k9c j u hc) id
  have k2c : ∀ j u, y.cell? ⟨q, j, none⟩ = some u → w2.cell? ⟨q, j, none⟩ = some u := fun j u hc => kp.cellv (k8c j u hc) (hvq q hq.1)
  have o8 : Ow w8 base (.slice pu r.b.length cu) r.b := ownsRow_base (ownsRow_keep o9 k8 (fun _ _ e => e)) (by omega)
  refine ⟨pu, cu, _, v2, w2, rfl, ⟨k9c 1 _ c1, k9c 2 _ c2, k9c 4 _ c4⟩, rfl, ?_, ?_, ⟨k2c 1 _ c1, k2c 2 _ c2, k2c 4 _ c4⟩, ⟨_, h8.app o8 hr.byte (fun b hb e => ?_) ho kp hv⟩, (kr8.mono (fun _ _ e => e.elim)).trans kp (fun _ _ e => e)⟩
  · rw [← hw8]; exact ⟨k8c 1 _ c1, k8c 2 _ c2, k8c 4 _ c4⟩
  · rw [← hw8]; exact hrun
  · have h1 := (ownBlock_lt o9 e).1
    have h2 := (ownBlock_lt hH.1 hb).2
    omega

end Go.Proofs.YtippipeebkkghaaGreatDoor
