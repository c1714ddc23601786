/- The drawn regions of order (laid by scripts/mkuk.py). -/
import Derived.Test.YtbbgplnenbkfeaaUj
namespace Go.Proofs.Ytbbgplnenbkfeaa
set_option linter.unusedVariables false
set_option linter.unusedSimpArgs false
open Go.RowKit Go.Deep Go.Maps

section
variable {P : Program} {md : Region.Mode} {ops : Array Oper} {Q : Exit → Act → World → Prop} {S : World → Prop}
theorem wanted_not {o : Oper} {f : Nat → Option Bool} {j : Nat} {b : Bool} (h : o.guard = some (j, b)) (hf : f j = some (!b)) : Region.wanted o f = false := by unfold Region.wanted; rw [h]; cases b <;> simp [hf]
/-- an operation that is not wanted is taken -/
theorem wpTake_stepU {K : Act → Prop} {i : Nat} {is : List Nat} {a : Act} (o : Oper) (d : Nat) (ho : (ops[i]?).map bare = some o) (hd : o.dst = some d) (hl : d < a.tmps.size) (hg : Region.wanted o (yielded ops a.tmps) = false)
    (h : ∀ a' : Act, a' = a.put (some d) undef → a'.tmps.size = a.tmps.size → a'.defers = a.defers → a'.eval (.tmp d) = undef → (∀ t, t ≠ d → a'.eval (.tmp t) = a.eval (.tmp t)) → wpTake P ops S K is a') : wpTake P ops S K (i :: is) a := by
  obtain ⟨o', ho', rfl⟩ := Option.map_eq_some_iff.1 ho
  obtain ⟨h1, h2, h3, h4⟩ := act_put a d undef hl
  refine ⟨o', undef, ho', Or.inr ⟨?_, rfl⟩, ?_⟩
  · have : Region.wanted (bare o') (yielded ops a.tmps) = Region.wanted o' (yielded ops a.tmps) := by cases o'; rfl
    rw [← this]; exact hg
  · have hd' : o'.dst = some d := hd
    rw [hd']
    exact h _ rfl h1 h2 h3 h4
/-- the one operation that may come up, guarded and not wanted -/
theorem wpAnyH_oneU {i fuel : Nat} {listed : Array Bool} {a : Act} {w : World} (o : Oper) (d : Nat) (hr : Region.ready md ops listed = [i]) (ho : (ops[i]?).map bare = some o) (hd : o.dst = some d) (hg : Region.wanted o (yielded ops a.tmps) = false) (hS : S w)
    (h : wpAnyH P md ops Q S fuel (listed.setIfInBounds i true) (a.put (some d) undef) w) : wpAnyH P md ops Q S (fuel + 1) listed a w := by
  obtain ⟨o', ho', rfl⟩ := Option.map_eq_some_iff.1 ho
  refine wpAnyH_ready hr (by simp) (AllReadyH.cons ho' (fun K' hK => ?_) AllReadyH.nil)
  have e : Region.wanted (bare o') (yielded ops a.tmps) = Region.wanted o' (yielded ops a.tmps) := by cases o'; rfl
  rw [e] at hg
  rw [if_neg (by rw [hg]; decide)]
  have hd' : o'.dst = some d := hd
  rw [hd']
  exact hK.out _ _ hS (fun _ => h)
end

theorem or1_0 (bc bp be b o n cap pt er : Nat) (hp : (pt : Int) < (n : Int)) (he : (er : Int) < (n : Int)) (t1 f1 f2 : Int) (ev : Operand → Value) (z : World) (ec : ∀ c, ev (.const c) = c) (e3 : ev (.tmp 3) = .pointer (some ⟨bc, 0, none⟩)) (hS : z.cell? ⟨bc, 0, none⟩ = some (.slice (some ⟨b, o, none⟩) n cap) ∧ z.cell? ⟨bp, 0, none⟩ = some (.int .i64 (pt : Int)) ∧ z.cell? ⟨be, 0, none⟩ = some (.int .i64 (er : Int)) ∧ z.cell? ⟨b, o + pt * 10 + 6, none⟩ = some (.int .i64 t1) ∧ z.cell? ⟨b, o + pt * 10 + 5, none⟩ = some (.int .i64 f1) ∧ z.cell? ⟨b, o + er * 10 + 5, none⟩ = some (.int .i64 f2)) : (execOp ev ⟨some 13, Op.load 41 (Operand.tmp 3), 41, "", #[], none⟩).run Try.prog z = .ok (.value (.slice (some ⟨b, o, none⟩) n cap)) z := by
  obtain ⟨sc, sp, se, s6, s5, s2⟩ := hS
  go_simp
theorem or1_1 (bc bp be b o n cap pt er : Nat) (hp : (pt : Int) < (n : Int)) (he : (er : Int) < (n : Int)) (t1 f1 f2 : Int) (ev : Operand → Value) (z : World) (ec : ∀ c, ev (.const c) = c) (e4 : ev (.tmp 4) = .pointer (some ⟨bp, 0, none⟩)) (hS : z.cell? ⟨bc, 0, none⟩ = some (.slice (some ⟨b, o, none⟩) n cap) ∧ z.cell? ⟨bp, 0, none⟩ = some (.int .i64 (pt : Int)) ∧ z.cell? ⟨be, 0, none⟩ = some (.int .i64 (er : Int)) ∧ z.cell? ⟨b, o + pt * 10 + 6, none⟩ = some (.int .i64 t1) ∧ z.cell? ⟨b, o + pt * 10 + 5, none⟩ = some (.int .i64 f1) ∧ z.cell? ⟨b, o + er * 10 + 5, none⟩ = some (.int .i64 f2)) : (execOp ev ⟨some 14, Op.load 3 (Operand.tmp 4), 3, "", #[], none⟩).run Try.prog z = .ok (.value (.int .i64 (pt : Int))) z := by
  obtain ⟨sc, sp, se, s6, s5, s2⟩ := hS
  go_simp
theorem or1_2 (bc bp be b o n cap pt er : Nat) (hp : (pt : Int) < (n : Int)) (he : (er : Int) < (n : Int)) (t1 f1 f2 : Int) (ev : Operand → Value) (z : World) (ec : ∀ c, ev (.const c) = c) (e13 : ev (.tmp 13) = .slice (some ⟨b, o, none⟩) n cap) (e14 : ev (.tmp 14) = .int .i64 (pt : Int)) (hS : z.cell? ⟨bc, 0, none⟩ = some (.slice (some ⟨b, o, none⟩) n cap) ∧ z.cell? ⟨bp, 0, none⟩ = some (.int .i64 (pt : Int)) ∧ z.cell? ⟨be, 0, none⟩ = some (.int .i64 (er : Int)) ∧ z.cell? ⟨b, o + pt * 10 + 6, none⟩ = some (.int .i64 t1) ∧ z.cell? ⟨b, o + pt * 10 + 5, none⟩ = some (.int .i64 f1) ∧ z.cell? ⟨b, o + er * 10 + 5, none⟩ = some (.int .i64 f2)) : (execOp ev ⟨some 15, Op.indexAddr 41 (Operand.tmp 13) (Operand.tmp 14), 0, "", #[], none⟩).run Try.prog z = .ok (.value (.pointer (some ⟨b, o + pt * 10, none⟩))) z := by
  obtain ⟨sc, sp, se, s6, s5, s2⟩ := hS
  go_simp
theorem or1_3 (bc bp be b o n cap pt er : Nat) (hp : (pt : Int) < (n : Int)) (he : (er : Int) < (n : Int)) (t1 f1 f2 : Int) (ev : Operand → Value) (z : World) (ec : ∀ c, ev (.const c) = c) (e15 : ev (.tmp 15) = .pointer (some ⟨b, o + pt * 10, none⟩)) (hS : z.cell? ⟨bc, 0, none⟩ = some (.slice (some ⟨b, o, none⟩) n cap) ∧ z.cell? ⟨bp, 0, none⟩ = some (.int .i64 (pt : Int)) ∧ z.cell? ⟨be, 0, none⟩ = some (.int .i64 (er : Int)) ∧ z.cell? ⟨b, o + pt * 10 + 6, none⟩ = some (.int .i64 t1) ∧ z.cell? ⟨b, o + pt * 10 + 5, none⟩ = some (.int .i64 f1) ∧ z.cell? ⟨b, o + er * 10 + 5, none⟩ = some (.int .i64 f2)) : (execOp ev ⟨some 16, Op.fieldAddr 65 (Operand.tmp 15) 2, 0, "", #[], none⟩).run Try.prog z = .ok (.value (.pointer (some ⟨b, o + pt * 10 + 6, none⟩))) z := by
  obtain ⟨sc, sp, se, s6, s5, s2⟩ := hS
  go_simp
theorem or1_4 (bc bp be b o n cap pt er : Nat) (hp : (pt : Int) < (n : Int)) (he : (er : Int) < (n : Int)) (t1 f1 f2 : Int) (ev : Operand → Value) (z : World) (ec : ∀ c, ev (.const c) = c) (e16 : ev (.tmp 16) = .pointer (some ⟨b, o + pt * 10 + 6, none⟩)) (hS : z.cell? ⟨bc, 0, none⟩ = some (.slice (some ⟨b, o, none⟩) n cap) ∧ z.cell? ⟨bp, 0, none⟩ = some (.int .i64 (pt : Int)) ∧ z.cell? ⟨be, 0, none⟩ = some (.int .i64 (er : Int)) ∧ z.cell? ⟨b, o + pt * 10 + 6, none⟩ = some (.int .i64 t1) ∧ z.cell? ⟨b, o + pt * 10 + 5, none⟩ = some (.int .i64 f1) ∧ z.cell? ⟨b, o + er * 10 + 5, none⟩ = some (.int .i64 f2)) : (execOp ev ⟨some 17, Op.load 3 (Operand.tmp 16), 3, "", #[], none⟩).run Try.prog z = .ok (.value (.int .i64 t1)) z := by
  obtain ⟨sc, sp, se, s6, s5, s2⟩ := hS
  go_simp
theorem or1_5 (bc bp be b o n cap pt er : Nat) (hp : (pt : Int) < (n : Int)) (he : (er : Int) < (n : Int)) (t1 f1 f2 : Int) (ev : Operand → Value) (z : World) (ec : ∀ c, ev (.const c) = c) (e3 : ev (.tmp 3) = .pointer (some ⟨bc, 0, none⟩)) (hS : z.cell? ⟨bc, 0, none⟩ = some (.slice (some ⟨b, o, none⟩) n cap) ∧ z.cell? ⟨bp, 0, none⟩ = some (.int .i64 (pt : Int)) ∧ z.cell? ⟨be, 0, none⟩ = some (.int .i64 (er : Int)) ∧ z.cell? ⟨b, o + pt * 10 + 6, none⟩ = some (.int .i64 t1) ∧ z.cell? ⟨b, o + pt * 10 + 5, none⟩ = some (.int .i64 f1) ∧ z.cell? ⟨b, o + er * 10 + 5, none⟩ = some (.int .i64 f2)) : (execOp ev ⟨some 18, Op.load 41 (Operand.tmp 3), 41, "", #[], none⟩).run Try.prog z = .ok (.value (.slice (some ⟨b, o, none⟩) n cap)) z := by
  obtain ⟨sc, sp, se, s6, s5, s2⟩ := hS
  go_simp
theorem or1_6 (bc bp be b o n cap pt er : Nat) (hp : (pt : Int) < (n : Int)) (he : (er : Int) < (n : Int)) (t1 f1 f2 : Int) (ev : Operand → Value) (z : World) (ec : ∀ c, ev (.const c) = c) (e4 : ev (.tmp 4) = .pointer (some ⟨bp, 0, none⟩)) (hS : z.cell? ⟨bc, 0, none⟩ = some (.slice (some ⟨b, o, none⟩) n cap) ∧ z.cell? ⟨bp, 0, none⟩ = some (.int .i64 (pt : Int)) ∧ z.cell? ⟨be, 0, none⟩ = some (.int .i64 (er : Int)) ∧ z.cell? ⟨b, o + pt * 10 + 6, none⟩ = some (.int .i64 t1) ∧ z.cell? ⟨b, o + pt * 10 + 5, none⟩ = some (.int .i64 f1) ∧ z.cell? ⟨b, o + er * 10 + 5, none⟩ = some (.int .i64 f2)) : (execOp ev ⟨some 19, Op.load 3 (Operand.tmp 4), 3, "", #[], none⟩).run Try.prog z = .ok (.value (.int .i64 (pt : Int))) z := by
  obtain ⟨sc, sp, se, s6, s5, s2⟩ := hS
  go_simp
theorem or1_7 (bc bp be b o n cap pt er : Nat) (hp : (pt : Int) < (n : Int)) (he : (er : Int) < (n : Int)) (t1 f1 f2 : Int) (ev : Operand → Value) (z : World) (ec : ∀ c, ev (.const c) = c) (e18 : ev (.tmp 18) = .slice (some ⟨b, o, none⟩) n cap) (e19 : ev (.tmp 19) = .int .i64 (pt : Int)) (hS : z.cell? ⟨bc, 0, none⟩ = some (.slice (some ⟨b, o, none⟩) n cap) ∧ z.cell? ⟨bp, 0, none⟩ = some (.int .i64 (pt : Int)) ∧ z.cell? ⟨be, 0, none⟩ = some (.int .i64 (er : Int)) ∧ z.cell? ⟨b, o + pt * 10 + 6, none⟩ = some (.int .i64 t1) ∧ z.cell? ⟨b, o + pt * 10 + 5, none⟩ = some (.int .i64 f1) ∧ z.cell? ⟨b, o + er * 10 + 5, none⟩ = some (.int .i64 f2)) : (execOp ev ⟨some 20, Op.indexAddr 41 (Operand.tmp 18) (Operand.tmp 19), 0, "", #[], none⟩).run Try.prog z = .ok (.value (.pointer (some ⟨b, o + pt * 10, none⟩))) z := by
  obtain ⟨sc, sp, se, s6, s5, s2⟩ := hS
  go_simp
theorem or1_8 (bc bp be b o n cap pt er : Nat) (hp : (pt : Int) < (n : Int)) (he : (er : Int) < (n : Int)) (t1 f1 f2 : Int) (ev : Operand → Value) (z : World) (ec : ∀ c, ev (.const c) = c) (e20 : ev (.tmp 20) = .pointer (some ⟨b, o + pt * 10, none⟩)) (hS : z.cell? ⟨bc, 0, none⟩ = some (.slice (some ⟨b, o, none⟩) n cap) ∧ z.cell? ⟨bp, 0, none⟩ = some (.int .i64 (pt : Int)) ∧ z.cell? ⟨be, 0, none⟩ = some (.int .i64 (er : Int)) ∧ z.cell? ⟨b, o + pt * 10 + 6, none⟩ = some (.int .i64 t1) ∧ z.cell? ⟨b, o + pt * 10 + 5, none⟩ = some (.int .i64 f1) ∧ z.cell? ⟨b, o + er * 10 + 5, none⟩ = some (.int .i64 f2)) : (execOp ev ⟨some 21, Op.fieldAddr 65 (Operand.tmp 20) 1, 0, "", #[], none⟩).run Try.prog z = .ok (.value (.pointer (some ⟨b, o + pt * 10 + 5, none⟩))) z := by
  obtain ⟨sc, sp, se, s6, s5, s2⟩ := hS
  go_simp
theorem or1_9 (bc bp be b o n cap pt er : Nat) (hp : (pt : Int) < (n : Int)) (he : (er : Int) < (n : Int)) (t1 f1 f2 : Int) (ev : Operand → Value) (z : World) (ec : ∀ c, ev (.const c) = c) (e21 : ev (.tmp 21) = .pointer (some ⟨b, o + pt * 10 + 5, none⟩)) (hS : z.cell? ⟨bc, 0, none⟩ = some (.slice (some ⟨b, o, none⟩) n cap) ∧ z.cell? ⟨bp, 0, none⟩ = some (.int .i64 (pt : Int)) ∧ z.cell? ⟨be, 0, none⟩ = some (.int .i64 (er : Int)) ∧ z.cell? ⟨b, o + pt * 10 + 6, none⟩ = some (.int .i64 t1) ∧ z.cell? ⟨b, o + pt * 10 + 5, none⟩ = some (.int .i64 f1) ∧ z.cell? ⟨b, o + er * 10 + 5, none⟩ = some (.int .i64 f2)) : (execOp ev ⟨some 22, Op.load 3 (Operand.tmp 21), 3, "", #[], none⟩).run Try.prog z = .ok (.value (.int .i64 f1)) z := by
  obtain ⟨sc, sp, se, s6, s5, s2⟩ := hS
  go_simp
theorem or1_10 (bc bp be b o n cap pt er : Nat) (hp : (pt : Int) < (n : Int)) (he : (er : Int) < (n : Int)) (t1 f1 f2 : Int) (ev : Operand → Value) (z : World) (ec : ∀ c, ev (.const c) = c) (e3 : ev (.tmp 3) = .pointer (some ⟨bc, 0, none⟩)) (hS : z.cell? ⟨bc, 0, none⟩ = some (.slice (some ⟨b, o, none⟩) n cap) ∧ z.cell? ⟨bp, 0, none⟩ = some (.int .i64 (pt : Int)) ∧ z.cell? ⟨be, 0, none⟩ = some (.int .i64 (er : Int)) ∧ z.cell? ⟨b, o + pt * 10 + 6, none⟩ = some (.int .i64 t1) ∧ z.cell? ⟨b, o + pt * 10 + 5, none⟩ = some (.int .i64 f1) ∧ z.cell? ⟨b, o + er * 10 + 5, none⟩ = some (.int .i64 f2)) : (execOp ev ⟨some 23, Op.load 41 (Operand.tmp 3), 41, "", #[], none⟩).run Try.prog z = .ok (.value (.slice (some ⟨b, o, none⟩) n cap)) z := by
  obtain ⟨sc, sp, se, s6, s5, s2⟩ := hS
  go_simp
theorem or1_11 (bc bp be b o n cap pt er : Nat) (hp : (pt : Int) < (n : Int)) (he : (er : Int) < (n : Int)) (t1 f1 f2 : Int) (ev : Operand → Value) (z : World) (ec : ∀ c, ev (.const c) = c) (e5 : ev (.tmp 5) = .pointer (some ⟨be, 0, none⟩)) (hS : z.cell? ⟨bc, 0, none⟩ = some (.slice (some ⟨b, o, none⟩) n cap) ∧ z.cell? ⟨bp, 0, none⟩ = some (.int .i64 (pt : Int)) ∧ z.cell? ⟨be, 0, none⟩ = some (.int .i64 (er : Int)) ∧ z.cell? ⟨b, o + pt * 10 + 6, none⟩ = some (.int .i64 t1) ∧ z.cell? ⟨b, o + pt * 10 + 5, none⟩ = some (.int .i64 f1) ∧ z.cell? ⟨b, o + er * 10 + 5, none⟩ = some (.int .i64 f2)) : (execOp ev ⟨some 24, Op.load 3 (Operand.tmp 5), 3, "", #[], none⟩).run Try.prog z = .ok (.value (.int .i64 (er : Int))) z := by
  obtain ⟨sc, sp, se, s6, s5, s2⟩ := hS
  go_simp
theorem or1_12 (bc bp be b o n cap pt er : Nat) (hp : (pt : Int) < (n : Int)) (he : (er : Int) < (n : Int)) (t1 f1 f2 : Int) (ev : Operand → Value) (z : World) (ec : ∀ c, ev (.const c) = c) (e23 : ev (.tmp 23) = .slice (some ⟨b, o, none⟩) n cap) (e24 : ev (.tmp 24) = .int .i64 (er : Int)) (hS : z.cell? ⟨bc, 0, none⟩ = some (.slice (some ⟨b, o, none⟩) n cap) ∧ z.cell? ⟨bp, 0, none⟩ = some (.int .i64 (pt : Int)) ∧ z.cell? ⟨be, 0, none⟩ = some (.int .i64 (er : Int)) ∧ z.cell? ⟨b, o + pt * 10 + 6, none⟩ = some (.int .i64 t1) ∧ z.cell? ⟨b, o + pt * 10 + 5, none⟩ = some (.int .i64 f1) ∧ z.cell? ⟨b, o + er * 10 + 5, none⟩ = some (.int .i64 f2)) : (execOp ev ⟨some 25, Op.indexAddr 41 (Operand.tmp 23) (Operand.tmp 24), 0, "", #[], none⟩).run Try.prog z = .ok (.value (.pointer (some ⟨b, o + er * 10, none⟩))) z := by
  obtain ⟨sc, sp, se, s6, s5, s2⟩ := hS
  go_simp
theorem or1_13 (bc bp be b o n cap pt er : Nat) (hp : (pt : Int) < (n : Int)) (he : (er : Int) < (n : Int)) (t1 f1 f2 : Int) (ev : Operand → Value) (z : World) (ec : ∀ c, ev (.const c) = c) (e25 : ev (.tmp 25) = .pointer (some ⟨b, o + er * 10, none⟩)) (hS : z.cell? ⟨bc, 0, none⟩ = some (.slice (some ⟨b, o, none⟩) n cap) ∧ z.cell? ⟨bp, 0, none⟩ = some (.int .i64 (pt : Int)) ∧ z.cell? ⟨be, 0, none⟩ = some (.int .i64 (er : Int)) ∧ z.cell? ⟨b, o + pt * 10 + 6, none⟩ = some (.int .i64 t1) ∧ z.cell? ⟨b, o + pt * 10 + 5, none⟩ = some (.int .i64 f1) ∧ z.cell? ⟨b, o + er * 10 + 5, none⟩ = some (.int .i64 f2)) : (execOp ev ⟨some 26, Op.fieldAddr 65 (Operand.tmp 25) 1, 0, "", #[], none⟩).run Try.prog z = .ok (.value (.pointer (some ⟨b, o + er * 10 + 5, none⟩))) z := by
  obtain ⟨sc, sp, se, s6, s5, s2⟩ := hS
  go_simp
theorem or1_14 (bc bp be b o n cap pt er : Nat) (hp : (pt : Int) < (n : Int)) (he : (er : Int) < (n : Int)) (t1 f1 f2 : Int) (ev : Operand → Value) (z : World) (ec : ∀ c, ev (.const c) = c) (e26 : ev (.tmp 26) = .pointer (some ⟨b, o + er * 10 + 5, none⟩)) (hS : z.cell? ⟨bc, 0, none⟩ = some (.slice (some ⟨b, o, none⟩) n cap) ∧ z.cell? ⟨bp, 0, none⟩ = some (.int .i64 (pt : Int)) ∧ z.cell? ⟨be, 0, none⟩ = some (.int .i64 (er : Int)) ∧ z.cell? ⟨b, o + pt * 10 + 6, none⟩ = some (.int .i64 t1) ∧ z.cell? ⟨b, o + pt * 10 + 5, none⟩ = some (.int .i64 f1) ∧ z.cell? ⟨b, o + er * 10 + 5, none⟩ = some (.int .i64 f2)) : (execOp ev ⟨some 27, Op.load 3 (Operand.tmp 26), 3, "", #[], none⟩).run Try.prog z = .ok (.value (.int .i64 f2)) z := by
  obtain ⟨sc, sp, se, s6, s5, s2⟩ := hS
  go_simp
theorem or1_15 (bc bp be b o n cap pt er : Nat) (hp : (pt : Int) < (n : Int)) (he : (er : Int) < (n : Int)) (t1 f1 f2 : Int) (ev : Operand → Value) (z : World) (ec : ∀ c, ev (.const c) = c) (e22 : ev (.tmp 22) = .int .i64 f1) (e27 : ev (.tmp 27) = .int .i64 f2) (hS : z.cell? ⟨bc, 0, none⟩ = some (.slice (some ⟨b, o, none⟩) n cap) ∧ z.cell? ⟨bp, 0, none⟩ = some (.int .i64 (pt : Int)) ∧ z.cell? ⟨be, 0, none⟩ = some (.int .i64 (er : Int)) ∧ z.cell? ⟨b, o + pt * 10 + 6, none⟩ = some (.int .i64 t1) ∧ z.cell? ⟨b, o + pt * 10 + 5, none⟩ = some (.int .i64 f1) ∧ z.cell? ⟨b, o + er * 10 + 5, none⟩ = some (.int .i64 f2)) : (execOp ev ⟨some 28, Op.call { callee := Callee.builtin Builtin.max, args := #[Operand.tmp 22, Operand.tmp 27], argTypes := #[3, 3] }, 3, "", #[], none⟩).run Try.prog z = .ok (.value (.int .i64 (max f1 f2))) z := by
  obtain ⟨sc, sp, se, s6, s5, s2⟩ := hS
  go_simp
theorem or1_16 (bc bp be b o n cap pt er : Nat) (hp : (pt : Int) < (n : Int)) (he : (er : Int) < (n : Int)) (t1 f1 f2 : Int) (ev : Operand → Value) (z : World) (ec : ∀ c, ev (.const c) = c) (e17 : ev (.tmp 17) = .int .i64 t1) (hS : z.cell? ⟨bc, 0, none⟩ = some (.slice (some ⟨b, o, none⟩) n cap) ∧ z.cell? ⟨bp, 0, none⟩ = some (.int .i64 (pt : Int)) ∧ z.cell? ⟨be, 0, none⟩ = some (.int .i64 (er : Int)) ∧ z.cell? ⟨b, o + pt * 10 + 6, none⟩ = some (.int .i64 t1) ∧ z.cell? ⟨b, o + pt * 10 + 5, none⟩ = some (.int .i64 f1) ∧ z.cell? ⟨b, o + er * 10 + 5, none⟩ = some (.int .i64 f2)) : (execOp ev ⟨some 7, Op.assign (Operand.tmp 17), 3, "", #[], none⟩).run Try.prog z = .ok (.value (.int .i64 t1)) z := by
  obtain ⟨sc, sp, se, s6, s5, s2⟩ := hS
  go_simp
theorem or1_17 (bc bp be b o n cap pt er : Nat) (hp : (pt : Int) < (n : Int)) (he : (er : Int) < (n : Int)) (t1 f1 f2 : Int) (ev : Operand → Value) (z : World) (ec : ∀ c, ev (.const c) = c) (e28 : ev (.tmp 28) = .int .i64 (max f1 f2)) (hS : z.cell? ⟨bc, 0, none⟩ = some (.slice (some ⟨b, o, none⟩) n cap) ∧ z.cell? ⟨bp, 0, none⟩ = some (.int .i64 (pt : Int)) ∧ z.cell? ⟨be, 0, none⟩ = some (.int .i64 (er : Int)) ∧ z.cell? ⟨b, o + pt * 10 + 6, none⟩ = some (.int .i64 t1) ∧ z.cell? ⟨b, o + pt * 10 + 5, none⟩ = some (.int .i64 f1) ∧ z.cell? ⟨b, o + er * 10 + 5, none⟩ = some (.int .i64 f2)) : (execOp ev ⟨some 8, Op.assign (Operand.tmp 28), 3, "", #[], none⟩).run Try.prog z = .ok (.value (.int .i64 (max f1 f2))) z := by
  obtain ⟨sc, sp, se, s6, s5, s2⟩ := hS
  go_simp
structure or1R (ops : Array Oper) : Prop where
  size : ops.size = 18
  sel : Region.noSelect ops = true
  o0 : (ops[0]?).map bare = some ⟨some 13, Op.load 41 (Operand.tmp 3), 41, "", #[], none⟩
  o1 : (ops[1]?).map bare = some ⟨some 14, Op.load 3 (Operand.tmp 4), 3, "", #[], none⟩
  o2 : (ops[2]?).map bare = some ⟨some 15, Op.indexAddr 41 (Operand.tmp 13) (Operand.tmp 14), 0, "", #[], none⟩
  o3 : (ops[3]?).map bare = some ⟨some 16, Op.fieldAddr 65 (Operand.tmp 15) 2, 0, "", #[], none⟩
  o4 : (ops[4]?).map bare = some ⟨some 17, Op.load 3 (Operand.tmp 16), 3, "", #[], none⟩
  o5 : (ops[5]?).map bare = some ⟨some 18, Op.load 41 (Operand.tmp 3), 41, "", #[], none⟩
  o6 : (ops[6]?).map bare = some ⟨some 19, Op.load 3 (Operand.tmp 4), 3, "", #[], none⟩
  o7 : (ops[7]?).map bare = some ⟨some 20, Op.indexAddr 41 (Operand.tmp 18) (Operand.tmp 19), 0, "", #[], none⟩
  o8 : (ops[8]?).map bare = some ⟨some 21, Op.fieldAddr 65 (Operand.tmp 20) 1, 0, "", #[], none⟩
  o9 : (ops[9]?).map bare = some ⟨some 22, Op.load 3 (Operand.tmp 21), 3, "", #[], none⟩
  o10 : (ops[10]?).map bare = some ⟨some 23, Op.load 41 (Operand.tmp 3), 41, "", #[], none⟩
  o11 : (ops[11]?).map bare = some ⟨some 24, Op.load 3 (Operand.tmp 5), 3, "", #[], none⟩
  o12 : (ops[12]?).map bare = some ⟨some 25, Op.indexAddr 41 (Operand.tmp 23) (Operand.tmp 24), 0, "", #[], none⟩
  o13 : (ops[13]?).map bare = some ⟨some 26, Op.fieldAddr 65 (Operand.tmp 25) 1, 0, "", #[], none⟩
  o14 : (ops[14]?).map bare = some ⟨some 27, Op.load 3 (Operand.tmp 26), 3, "", #[], none⟩
  o15 : (ops[15]?).map bare = some ⟨some 28, Op.call { callee := Callee.builtin Builtin.max, args := #[Operand.tmp 22, Operand.tmp 27], argTypes := #[3, 3] }, 3, "", #[], none⟩
  o16 : (ops[16]?).map bare = some ⟨some 7, Op.assign (Operand.tmp 17), 3, "", #[], none⟩
  o17 : (ops[17]?).map bare = some ⟨some 8, Op.assign (Operand.tmp 28), 3, "", #[], none⟩
  may0 : takeB .any ops [0, 1, 2, 3, 4, 5, 6, 7, 8, 9, 10, 11, 12, 13, 14, 15, 16, 17] (Array.replicate 18 false) = true
  fin : Region.ready .any ops (mark [0, 1, 2, 3, 4, 5, 6, 7, 8, 9, 10, 11, 12, 13, 14, 15, 16, 17] (Array.replicate 18 false)) = []

set_option maxRecDepth 100000 in
set_option maxHeartbeats 3200000 in
theorem or1_region {ops : Array Oper} {id : Nat} {Q : Exit → Act → World → Prop} {a : Act} {y : World} (R : or1R ops) (bc bp be b o n cap pt er : Nat) (hp : (pt : Int) < (n : Int)) (he : (er : Int) < (n : Int)) (t1 f1 f2 : Int)
    (hQ : ∀ d v c a w, Q (.panic c) (a.put d v) w → Q (.panic c) a w) (hsz : a.tmps.size = 57) (e3 : a.eval (.tmp 3) = .pointer (some ⟨bc, 0, none⟩)) (e4 : a.eval (.tmp 4) = .pointer (some ⟨bp, 0, none⟩)) (e5 : a.eval (.tmp 5) = .pointer (some ⟨be, 0, none⟩)) (hS0 : y.drew.cell? ⟨bc, 0, none⟩ = some (.slice (some ⟨b, o, none⟩) n cap) ∧ y.drew.cell? ⟨bp, 0, none⟩ = some (.int .i64 (pt : Int)) ∧ y.drew.cell? ⟨be, 0, none⟩ = some (.int .i64 (er : Int)) ∧ y.drew.cell? ⟨b, o + pt * 10 + 6, none⟩ = some (.int .i64 t1) ∧ y.drew.cell? ⟨b, o + pt * 10 + 5, none⟩ = some (.int .i64 f1) ∧ y.drew.cell? ⟨b, o + er * 10 + 5, none⟩ = some (.int .i64 f2))
    (hK :  Q .normal ((((((((((((((((((a.put (some 13) (.slice (some ⟨b, o, none⟩) n cap)).put (some 14) (.int .i64 (pt : Int))).put (some 15) (.pointer (some ⟨b, o + pt * 10, none⟩))).put (some 16) (.pointer (some ⟨b, o + pt * 10 + 6, none⟩))).put (some 17) (.int .i64 t1)).put (some 18) (.slice (some ⟨b, o, none⟩) n cap)).put (some 19) (.int .i64 (pt : Int))).put (some 20) (.pointer (some ⟨b, o + pt * 10, none⟩))).put (some 21) (.pointer (some ⟨b, o + pt * 10 + 5, none⟩))).put (some 22) (.int .i64 f1)).put (some 23) (.slice (some ⟨b, o, none⟩) n cap)).put (some 24) (.int .i64 (er : Int))).put (some 25) (.pointer (some ⟨b, o + er * 10, none⟩))).put (some 26) (.pointer (some ⟨b, o + er * 10 + 5, none⟩))).put (some 27) (.int .i64 f2)).put (some 28) (.int .i64 (max f1 f2))).put (some 7) (.int .i64 t1)).put (some 8) (.int .i64 (max f1 f2))) y.drew) : (Code.region id ops true).wp Try.prog Q a y := by
  have HR : Hid (or1R ops) := R
  have hdf : a.defers = a.defers := rfl
  refine wp_region_held_drew (S := (fun z : World => z.cell? ⟨bc, 0, none⟩ = some (.slice (some ⟨b, o, none⟩) n cap) ∧ z.cell? ⟨bp, 0, none⟩ = some (.int .i64 (pt : Int)) ∧ z.cell? ⟨be, 0, none⟩ = some (.int .i64 (er : Int)) ∧ z.cell? ⟨b, o + pt * 10 + 6, none⟩ = some (.int .i64 t1) ∧ z.cell? ⟨b, o + pt * 10 + 5, none⟩ = some (.int .i64 f1) ∧ z.cell? ⟨b, o + er * 10 + 5, none⟩ = some (.int .i64 f2))) (by kernel_rfl) (hS0) (fun hHeld => ?_)
  rw [R.size]
  clear R
  refine wpAnyH_takes HR.out.sel hQ hHeld [0, 1, 2, 3, 4, 5, 6, 7, 8, 9, 10, 11, 12, 13, 14, 15, 16, 17] 0 _ _ HR.out.may0 ?_
  refine wpTake_stepE ⟨some 13, Op.load 41 (Operand.tmp 3), 41, "", #[], none⟩ 13 (.slice (some ⟨b, o, none⟩) n cap) HR.out.o0 rfl (by rw [hsz]; decide) (wanted_none rfl) (fun z hS => or1_0 bc bp be b o n cap pt er hp he t1 f1 f2 _ z (fun _ => rfl) e3 hS) ?_
  intro a1 ha1 s1 f1 n1 k1
  replace hsz := s1.trans hsz
  replace hdf := f1.trans hdf
  replace e3 := (k1 3 (by decide)).trans e3
  replace e4 := (k1 4 (by decide)).trans e4
  replace e5 := (k1 5 (by decide)).trans e5
  have e13 := n1
  clear s1 f1 n1 k1
  refine wpTake_stepE ⟨some 14, Op.load 3 (Operand.tmp 4), 3, "", #[], none⟩ 14 (.int .i64 (pt : Int)) HR.out.o1 rfl (by rw [hsz]; decide) (wanted_none rfl) (fun z hS => or1_1 bc bp be b o n cap pt er hp he t1 f1 f2 _ z (fun _ => rfl) e4 hS) ?_
  intro a2 ha2 s1 f1 n1 k1
  replace hsz := s1.trans hsz
  replace hdf := f1.trans hdf
  replace e3 := (k1 3 (by decide)).trans e3
  replace e4 := (k1 4 (by decide)).trans e4
  replace e5 := (k1 5 (by decide)).trans e5
  replace e13 := (k1 13 (by decide)).trans e13
  have e14 := n1
  clear s1 f1 n1 k1
  refine wpTake_stepE ⟨some 15, Op.indexAddr 41 (Operand.tmp 13) (Operand.tmp 14), 0, "", #[], none⟩ 15 (.pointer (some ⟨b, o + pt * 10, none⟩)) HR.out.o2 rfl (by rw [hsz]; decide) (wanted_none rfl) (fun z hS => or1_2 bc bp be b o n cap pt er hp he t1 f1 f2 _ z (fun _ => rfl) e13 e14 hS) ?_
  intro a3 ha3 s1 f1 n1 k1
  replace hsz := s1.trans hsz
  replace hdf := f1.trans hdf
  replace e3 := (k1 3 (by decide)).trans e3
  replace e4 := (k1 4 (by decide)).trans e4
  replace e5 := (k1 5 (by decide)).trans e5
  have e15 := n1
  clear s1 f1 n1 k1
  refine wpTake_stepE ⟨some 16, Op.fieldAddr 65 (Operand.tmp 15) 2, 0, "", #[], none⟩ 16 (.pointer (some ⟨b, o + pt * 10 + 6, none⟩)) HR.out.o3 rfl (by rw [hsz]; decide) (wanted_none rfl) (fun z hS => or1_3 bc bp be b o n cap pt er hp he t1 f1 f2 _ z (fun _ => rfl) e15 hS) ?_
  intro a4 ha4 s1 f1 n1 k1
  replace hsz := s1.trans hsz
  replace hdf := f1.trans hdf
  replace e3 := (k1 3 (by decide)).trans e3
  replace e4 := (k1 4 (by decide)).trans e4
  replace e5 := (k1 5 (by decide)).trans e5
  have e16 := n1
  clear s1 f1 n1 k1
  refine wpTake_stepE ⟨some 17, Op.load 3 (Operand.tmp 16), 3, "", #[], none⟩ 17 (.int .i64 t1) HR.out.o4 rfl (by rw [hsz]; decide) (wanted_none rfl) (fun z hS => or1_4 bc bp be b o n cap pt er hp he t1 f1 f2 _ z (fun _ => rfl) e16 hS) ?_
  intro a5 ha5 s1 f1 n1 k1
  replace hsz := s1.trans hsz
  replace hdf := f1.trans hdf
  replace e3 := (k1 3 (by decide)).trans e3
  replace e4 := (k1 4 (by decide)).trans e4
  replace e5 := (k1 5 (by decide)).trans e5
  have e17 := n1
  clear s1 f1 n1 k1
  refine wpTake_stepE ⟨some 18, Op.load 41 (Operand.tmp 3), 41, "", #[], none⟩ 18 (.slice (some ⟨b, o, none⟩) n cap) HR.out.o5 rfl (by rw [hsz]; decide) (wanted_none rfl) (fun z hS => or1_5 bc bp be b o n cap pt er hp he t1 f1 f2 _ z (fun _ => rfl) e3 hS) ?_
  intro a6 ha6 s1 f1 n1 k1
  replace hsz := s1.trans hsz
  replace hdf := f1.trans hdf
  replace e3 := (k1 3 (by decide)).trans e3
  replace e4 := (k1 4 (by decide)).trans e4
  replace e5 := (k1 5 (by decide)).trans e5
  replace e17 := (k1 17 (by decide)).trans e17
  have e18 := n1
  clear s1 f1 n1 k1
  refine wpTake_stepE ⟨some 19, Op.load 3 (Operand.tmp 4), 3, "", #[], none⟩ 19 (.int .i64 (pt : Int)) HR.out.o6 rfl (by rw [hsz]; decide) (wanted_none rfl) (fun z hS => or1_6 bc bp be b o n cap pt er hp he t1 f1 f2 _ z (fun _ => rfl) e4 hS) ?_
  intro a7 ha7 s1 f1 n1 k1
  replace hsz := s1.trans hsz
  replace hdf := f1.trans hdf
  replace e3 := (k1 3 (by decide)).trans e3
  replace e5 := (k1 5 (by decide)).trans e5
  replace e17 := (k1 17 (by decide)).trans e17
  replace e18 := (k1 18 (by decide)).trans e18
  have e19 := n1
  clear s1 f1 n1 k1
  refine wpTake_stepE ⟨some 20, Op.indexAddr 41 (Operand.tmp 18) (Operand.tmp 19), 0, "", #[], none⟩ 20 (.pointer (some ⟨b, o + pt * 10, none⟩)) HR.out.o7 rfl (by rw [hsz]; decide) (wanted_none rfl) (fun z hS => or1_7 bc bp be b o n cap pt er hp he t1 f1 f2 _ z (fun _ => rfl) e18 e19 hS) ?_
  intro a8 ha8 s1 f1 n1 k1
  replace hsz := s1.trans hsz
  replace hdf := f1.trans hdf
  replace e3 := (k1 3 (by decide)).trans e3
  replace e5 := (k1 5 (by decide)).trans e5
  replace e17 := (k1 17 (by decide)).trans e17
  have e20 := n1
  clear s1 f1 n1 k1
  refine wpTake_stepE ⟨some 21, Op.fieldAddr 65 (Operand.tmp 20) 1, 0, "", #[], none⟩ 21 (.pointer (some ⟨b, o + pt * 10 + 5, none⟩)) HR.out.o8 rfl (by rw [hsz]; decide) (wanted_none rfl) (fun z hS => or1_8 bc bp be b o n cap pt er hp he t1 f1 f2 _ z (fun _ => rfl) e20 hS) ?_
  intro a9 ha9 s1 f1 n1 k1
  replace hsz := s1.trans hsz
  replace hdf := f1.trans hdf
  replace e3 := (k1 3 (by decide)).trans e3
  replace e5 := (k1 5 (by decide)).trans e5
  replace e17 := (k1 17 (by decide)).trans e17
  have e21 := n1
  clear s1 f1 n1 k1
  refine wpTake_stepE ⟨some 22, Op.load 3 (Operand.tmp 21), 3, "", #[], none⟩ 22 (.int .i64 f1) HR.out.o9 rfl (by rw [hsz]; decide) (wanted_none rfl) (fun z hS => or1_9 bc bp be b o n cap pt er hp he t1 f1 f2 _ z (fun _ => rfl) e21 hS) ?_
  intro a10 ha10 s1 f1 n1 k1
  replace hsz := s1.trans hsz
  replace hdf := f1.trans hdf
  replace e3 := (k1 3 (by decide)).trans e3
  replace e5 := (k1 5 (by decide)).trans e5
  replace e17 := (k1 17 (by decide)).trans e17
  have e22 := n1
  clear s1 f1 n1 k1
  refine wpTake_stepE ⟨some 23, Op.load 41 (Operand.tmp 3), 41, "", #[], none⟩ 23 (.slice (some ⟨b, o, none⟩) n cap) HR.out.o10 rfl (by rw [hsz]; decide) (wanted_none rfl) (fun z hS => or1_10 bc bp be b o n cap pt er hp he t1 f1 f2 _ z (fun _ => rfl) e3 hS) ?_
  intro a11 ha11 s1 f1 n1 k1
  replace hsz := s1.trans hsz
  replace hdf := f1.trans hdf
  replace e5 := (k1 5 (by decide)).trans e5
  replace e17 := (k1 17 (by decide)).trans e17
  replace e22 := (k1 22 (by decide)).trans e22
  have e23 := n1
  clear s1 f1 n1 k1
  refine wpTake_stepE ⟨some 24, Op.load 3 (Operand.tmp 5), 3, "", #[], none⟩ 24 (.int .i64 (er : Int)) HR.out.o11 rfl (by rw [hsz]; decide) (wanted_none rfl) (fun z hS => or1_11 bc bp be b o n cap pt er hp he t1 f1 f2 _ z (fun _ => rfl) e5 hS) ?_
  intro a12 ha12 s1 f1 n1 k1
  replace hsz := s1.trans hsz
  replace hdf := f1.trans hdf
  replace e17 := (k1 17 (by decide)).trans e17
  replace e22 := (k1 22 (by decide)).trans e22
  replace e23 := (k1 23 (by decide)).trans e23
  have e24 := n1
  clear s1 f1 n1 k1
  refine wpTake_stepE ⟨some 25, Op.indexAddr 41 (Operand.tmp 23) (Operand.tmp 24), 0, "", #[], none⟩ 25 (.pointer (some ⟨b, o + er * 10, none⟩)) HR.out.o12 rfl (by rw [hsz]; decide) (wanted_none rfl) (fun z hS => or1_12 bc bp be b o n cap pt er hp he t1 f1 f2 _ z (fun _ => rfl) e23 e24 hS) ?_
  intro a13 ha13 s1 f1 n1 k1
  replace hsz := s1.trans hsz
  replace hdf := f1.trans hdf
  replace e17 := (k1 17 (by decide)).trans e17
  replace e22 := (k1 22 (by decide)).trans e22
  have e25 := n1
  clear s1 f1 n1 k1
  refine wpTake_stepE ⟨some 26, Op.fieldAddr 65 (Operand.tmp 25) 1, 0, "", #[], none⟩ 26 (.pointer (some ⟨b, o + er * 10 + 5, none⟩)) HR.out.o13 rfl (by rw [hsz]; decide) (wanted_none rfl) (fun z hS => or1_13 bc bp be b o n cap pt er hp he t1 f1 f2 _ z (fun _ => rfl) e25 hS) ?_
  intro a14 ha14 s1 f1 n1 k1
  replace hsz := s1.trans hsz
  replace hdf := f1.trans hdf
  replace e17 := (k1 17 (by decide)).trans e17
  replace e22 := (k1 22 (by decide)).trans e22
  have e26 := n1
  clear s1 f1 n1 k1
  refine wpTake_stepE ⟨some 27, Op.load 3 (Operand.tmp 26), 3, "", #[], none⟩ 27 (.int .i64 f2) HR.out.o14 rfl (by rw [hsz]; decide) (wanted_none rfl) (fun z hS => or1_14 bc bp be b o n cap pt er hp he t1 f1 f2 _ z (fun _ => rfl) e26 hS) ?_
  intro a15 ha15 s1 f1 n1 k1
  replace hsz := s1.trans hsz
  replace hdf := f1.trans hdf
  replace e17 := (k1 17 (by decide)).trans e17
  replace e22 := (k1 22 (by decide)).trans e22
  have e27 := n1
  clear s1 f1 n1 k1
  refine wpTake_stepE ⟨some 28, Op.call { callee := Callee.builtin Builtin.max, args := #[Operand.tmp 22, Operand.tmp 27], argTypes := #[3, 3] }, 3, "", #[], none⟩ 28 (.int .i64 (max f1 f2)) HR.out.o15 rfl (by rw [hsz]; decide) (wanted_none rfl) (fun z hS => or1_15 bc bp be b o n cap pt er hp he t1 f1 f2 _ z (fun _ => rfl) e22 e27 hS) ?_
  intro a16 ha16 s1 f1 n1 k1
  replace hsz := s1.trans hsz
  replace hdf := f1.trans hdf
  replace e17 := (k1 17 (by decide)).trans e17
  have e28 := n1
  clear s1 f1 n1 k1
  refine wpTake_stepE ⟨some 7, Op.assign (Operand.tmp 17), 3, "", #[], none⟩ 7 (.int .i64 t1) HR.out.o16 rfl (by rw [hsz]; decide) (wanted_none rfl) (fun z hS => or1_16 bc bp be b o n cap pt er hp he t1 f1 f2 _ z (fun _ => rfl) e17 hS) ?_
  intro a17 ha17 s1 f1 n1 k1
  replace hsz := s1.trans hsz
  replace hdf := f1.trans hdf
  replace e28 := (k1 28 (by decide)).trans e28
  clear s1 f1 n1 k1
  refine wpTake_stepE ⟨some 8, Op.assign (Operand.tmp 28), 3, "", #[], none⟩ 8 (.int .i64 (max f1 f2)) HR.out.o17 rfl (by rw [hsz]; decide) (wanted_none rfl) (fun z hS => or1_17 bc bp be b o n cap pt er hp he t1 f1 f2 _ z (fun _ => rfl) e28 hS) ?_
  intro a18 ha18 s1 f1 n1 k1
  replace hsz := s1.trans hsz
  replace hdf := f1.trans hdf
  clear s1 f1 n1 k1
  refine wpTake_nil ?_
  refine wpAnyH_done HR.out.fin ?_ _
  rw [ha18, ha17, ha16, ha15, ha14, ha13, ha12, ha11, ha10, ha9, ha8, ha7, ha6, ha5, ha4, ha3, ha2, ha1]
  exact hK
-- R: ⟨by kernel_rfl, by kernel_rfl, by kernel_rfl, by kernel_rfl, by kernel_rfl, by kernel_rfl, by kernel_rfl, by kernel_rfl, by kernel_rfl, by kernel_rfl, by kernel_rfl, by kernel_rfl, by kernel_rfl, by kernel_rfl, by kernel_rfl, by kernel_rfl, by kernel_rfl, by kernel_rfl, by kernel_rfl, by kernel_rfl, by kernel_rfl, by kernel_rfl⟩

theorem oa_0 (bx bw br bc bp b o n cap pt : Nat) (hp : (pt : Int) < (n : Int)) (wr er : Int) (ca : Array Value) (gv pv : Value) (r : Bool) (ev : Operand → Value) (z : World) (ec : ∀ c, ev (.const c) = c) (e8 : ev (.tmp 8) = .pointer (some ⟨bx, 0, none⟩)) (hS : (loadVar 65 ⟨bx, 0, none⟩).run Try.prog z = .ok (.agg ca) z ∧ z.cell? ⟨bx, 9, none⟩ = some gv ∧ z.cell? ⟨bw, 0, none⟩ = some (.int .i64 wr) ∧ z.cell? ⟨br, 0, none⟩ = some (.int .i64 er) ∧ z.cell? ⟨bc, 0, none⟩ = some (.slice (some ⟨b, o, none⟩) n cap) ∧ z.cell? ⟨bp, 0, none⟩ = some (.int .i64 (pt : Int)) ∧ z.cell? ⟨b, o + pt * 10 + 4, none⟩ = some pv) : (execOp ev ⟨some 55, Op.load 65 (Operand.tmp 8), 65, "", #[], none⟩).run Try.prog z = .ok (.value (.agg ca)) z := by
  exact exec_ldr e8 hS.1
theorem oa_1 (bx bw br bc bp b o n cap pt : Nat) (hp : (pt : Int) < (n : Int)) (wr er : Int) (ca : Array Value) (gv pv : Value) (r : Bool) (ev : Operand → Value) (z : World) (ec : ∀ c, ev (.const c) = c) (e3 : ev (.tmp 3) = .pointer (some ⟨bw, 0, none⟩)) (hS : (loadVar 65 ⟨bx, 0, none⟩).run Try.prog z = .ok (.agg ca) z ∧ z.cell? ⟨bx, 9, none⟩ = some gv ∧ z.cell? ⟨bw, 0, none⟩ = some (.int .i64 wr) ∧ z.cell? ⟨br, 0, none⟩ = some (.int .i64 er) ∧ z.cell? ⟨bc, 0, none⟩ = some (.slice (some ⟨b, o, none⟩) n cap) ∧ z.cell? ⟨bp, 0, none⟩ = some (.int .i64 (pt : Int)) ∧ z.cell? ⟨b, o + pt * 10 + 4, none⟩ = some pv) : (execOp ev ⟨some 56, Op.load 3 (Operand.tmp 3), 3, "", #[], none⟩).run Try.prog z = .ok (.value (.int .i64 wr)) z := by
  obtain ⟨sl, s9, sw, sr, sc, sp, s4⟩ := hS
  go_simp
theorem oa_2 (bx bw br bc bp b o n cap pt : Nat) (hp : (pt : Int) < (n : Int)) (wr er : Int) (ca : Array Value) (gv pv : Value) (r : Bool) (ev : Operand → Value) (z : World) (ec : ∀ c, ev (.const c) = c) (e5 : ev (.tmp 5) = .pointer (some ⟨br, 0, none⟩)) (hS : (loadVar 65 ⟨bx, 0, none⟩).run Try.prog z = .ok (.agg ca) z ∧ z.cell? ⟨bx, 9, none⟩ = some gv ∧ z.cell? ⟨bw, 0, none⟩ = some (.int .i64 wr) ∧ z.cell? ⟨br, 0, none⟩ = some (.int .i64 er) ∧ z.cell? ⟨bc, 0, none⟩ = some (.slice (some ⟨b, o, none⟩) n cap) ∧ z.cell? ⟨bp, 0, none⟩ = some (.int .i64 (pt : Int)) ∧ z.cell? ⟨b, o + pt * 10 + 4, none⟩ = some pv) : (execOp ev ⟨some 57, Op.load 3 (Operand.tmp 5), 3, "", #[], none⟩).run Try.prog z = .ok (.value (.int .i64 er)) z := by
  obtain ⟨sl, s9, sw, sr, sc, sp, s4⟩ := hS
  go_simp
set_option maxRecDepth 100000 in
theorem oa_3 (bx bw br bc bp b o n cap pt : Nat) (hp : (pt : Int) < (n : Int)) (wr er : Int) (ca : Array Value) (gv pv : Value) (r : Bool) (ev : Operand → Value) (z : World) (ec : ∀ c, ev (.const c) = c) (ef : ev (.func 41) = .func (.func 41) #[] #[]) (e55 : ev (.tmp 55) = .agg ca) (e56 : ev (.tmp 56) = .int .i64 wr) (e57 : ev (.tmp 57) = .int .i64 er) : (execOp ev ⟨some 58, Op.call { callee := Callee.value (Operand.func 41), args := #[Operand.tmp 55, Operand.tmp 56, Operand.tmp 57], argTypes := #[65, 3, 3] }, 4, "", #[], none⟩).run Try.prog z = .ok (.enter 41 #[.agg ca, .int .i64 wr, .int .i64 er]) z :=
  enter_run _ ef (by simp only [List.map_toArray, List.map_cons, List.map_nil, ec, e55, e56, e57]) (fun _ => by rfl)
theorem oa_4 (bx bw br bc bp b o n cap pt : Nat) (hp : (pt : Int) < (n : Int)) (wr er : Int) (ca : Array Value) (gv pv : Value) (r : Bool) (ev : Operand → Value) (z : World) (ec : ∀ c, ev (.const c) = c) (e58 : ev (.tmp 58) = .bool true) (hS : (loadVar 65 ⟨bx, 0, none⟩).run Try.prog z = .ok (.agg ca) z ∧ z.cell? ⟨bx, 9, none⟩ = some gv ∧ z.cell? ⟨bw, 0, none⟩ = some (.int .i64 wr) ∧ z.cell? ⟨br, 0, none⟩ = some (.int .i64 er) ∧ z.cell? ⟨bc, 0, none⟩ = some (.slice (some ⟨b, o, none⟩) n cap) ∧ z.cell? ⟨bp, 0, none⟩ = some (.int .i64 (pt : Int)) ∧ z.cell? ⟨b, o + pt * 10 + 4, none⟩ = some pv) : (execOp ev ⟨some 59, Op.move (Operand.tmp 58), 4, "", #[], none⟩).run Try.prog z = .ok (.value (.bool true)) z := by
  obtain ⟨sl, s9, sw, sr, sc, sp, s4⟩ := hS
  go_simp
theorem oa_5 (bx bw br bc bp b o n cap pt : Nat) (hp : (pt : Int) < (n : Int)) (wr er : Int) (ca : Array Value) (gv pv : Value) (r : Bool) (ev : Operand → Value) (z : World) (ec : ∀ c, ev (.const c) = c) (e8 : ev (.tmp 8) = .pointer (some ⟨bx, 0, none⟩)) (hS : (loadVar 65 ⟨bx, 0, none⟩).run Try.prog z = .ok (.agg ca) z ∧ z.cell? ⟨bx, 9, none⟩ = some gv ∧ z.cell? ⟨bw, 0, none⟩ = some (.int .i64 wr) ∧ z.cell? ⟨br, 0, none⟩ = some (.int .i64 er) ∧ z.cell? ⟨bc, 0, none⟩ = some (.slice (some ⟨b, o, none⟩) n cap) ∧ z.cell? ⟨bp, 0, none⟩ = some (.int .i64 (pt : Int)) ∧ z.cell? ⟨b, o + pt * 10 + 4, none⟩ = some pv) : (execOp ev ⟨some 60, Op.fieldAddr 65 (Operand.tmp 8) 5, 0, "", #[], some (4, true)⟩).run Try.prog z = .ok (.value (.pointer (some ⟨bx, 9, none⟩))) z := by
  obtain ⟨sl, s9, sw, sr, sc, sp, s4⟩ := hS
  go_simp
theorem oa_6 (bx bw br bc bp b o n cap pt : Nat) (hp : (pt : Int) < (n : Int)) (wr er : Int) (ca : Array Value) (gv pv : Value) (r : Bool) (ev : Operand → Value) (z : World) (ec : ∀ c, ev (.const c) = c) (e60 : ev (.tmp 60) = .pointer (some ⟨bx, 9, none⟩)) (hS : (loadVar 65 ⟨bx, 0, none⟩).run Try.prog z = .ok (.agg ca) z ∧ z.cell? ⟨bx, 9, none⟩ = some gv ∧ z.cell? ⟨bw, 0, none⟩ = some (.int .i64 wr) ∧ z.cell? ⟨br, 0, none⟩ = some (.int .i64 er) ∧ z.cell? ⟨bc, 0, none⟩ = some (.slice (some ⟨b, o, none⟩) n cap) ∧ z.cell? ⟨bp, 0, none⟩ = some (.int .i64 (pt : Int)) ∧ z.cell? ⟨b, o + pt * 10 + 4, none⟩ = some pv) : (execOp ev ⟨some 61, Op.load 27 (Operand.tmp 60), 27, "", #[], some (4, true)⟩).run Try.prog z = .ok (.value (gv)) z := by
  obtain ⟨sl, s9, sw, sr, sc, sp, s4⟩ := hS
  go_simp
theorem oa_7 (bx bw br bc bp b o n cap pt : Nat) (hp : (pt : Int) < (n : Int)) (wr er : Int) (ca : Array Value) (gv pv : Value) (r : Bool) (ev : Operand → Value) (z : World) (ec : ∀ c, ev (.const c) = c) (e1 : ev (.tmp 1) = .pointer (some ⟨bc, 0, none⟩)) (hS : (loadVar 65 ⟨bx, 0, none⟩).run Try.prog z = .ok (.agg ca) z ∧ z.cell? ⟨bx, 9, none⟩ = some gv ∧ z.cell? ⟨bw, 0, none⟩ = some (.int .i64 wr) ∧ z.cell? ⟨br, 0, none⟩ = some (.int .i64 er) ∧ z.cell? ⟨bc, 0, none⟩ = some (.slice (some ⟨b, o, none⟩) n cap) ∧ z.cell? ⟨bp, 0, none⟩ = some (.int .i64 (pt : Int)) ∧ z.cell? ⟨b, o + pt * 10 + 4, none⟩ = some pv) : (execOp ev ⟨some 62, Op.load 41 (Operand.tmp 1), 41, "", #[], some (4, true)⟩).run Try.prog z = .ok (.value (.slice (some ⟨b, o, none⟩) n cap)) z := by
  obtain ⟨sl, s9, sw, sr, sc, sp, s4⟩ := hS
  go_simp
theorem oa_8 (bx bw br bc bp b o n cap pt : Nat) (hp : (pt : Int) < (n : Int)) (wr er : Int) (ca : Array Value) (gv pv : Value) (r : Bool) (ev : Operand → Value) (z : World) (ec : ∀ c, ev (.const c) = c) (e2 : ev (.tmp 2) = .pointer (some ⟨bp, 0, none⟩)) (hS : (loadVar 65 ⟨bx, 0, none⟩).run Try.prog z = .ok (.agg ca) z ∧ z.cell? ⟨bx, 9, none⟩ = some gv ∧ z.cell? ⟨bw, 0, none⟩ = some (.int .i64 wr) ∧ z.cell? ⟨br, 0, none⟩ = some (.int .i64 er) ∧ z.cell? ⟨bc, 0, none⟩ = some (.slice (some ⟨b, o, none⟩) n cap) ∧ z.cell? ⟨bp, 0, none⟩ = some (.int .i64 (pt : Int)) ∧ z.cell? ⟨b, o + pt * 10 + 4, none⟩ = some pv) : (execOp ev ⟨some 63, Op.load 3 (Operand.tmp 2), 3, "", #[], some (4, true)⟩).run Try.prog z = .ok (.value (.int .i64 (pt : Int))) z := by
  obtain ⟨sl, s9, sw, sr, sc, sp, s4⟩ := hS
  go_simp
theorem oa_9 (bx bw br bc bp b o n cap pt : Nat) (hp : (pt : Int) < (n : Int)) (wr er : Int) (ca : Array Value) (gv pv : Value) (r : Bool) (ev : Operand → Value) (z : World) (ec : ∀ c, ev (.const c) = c) (e62 : ev (.tmp 62) = .slice (some ⟨b, o, none⟩) n cap) (e63 : ev (.tmp 63) = .int .i64 (pt : Int)) (hS : (loadVar 65 ⟨bx, 0, none⟩).run Try.prog z = .ok (.agg ca) z ∧ z.cell? ⟨bx, 9, none⟩ = some gv ∧ z.cell? ⟨bw, 0, none⟩ = some (.int .i64 wr) ∧ z.cell? ⟨br, 0, none⟩ = some (.int .i64 er) ∧ z.cell? ⟨bc, 0, none⟩ = some (.slice (some ⟨b, o, none⟩) n cap) ∧ z.cell? ⟨bp, 0, none⟩ = some (.int .i64 (pt : Int)) ∧ z.cell? ⟨b, o + pt * 10 + 4, none⟩ = some pv) : (execOp ev ⟨some 64, Op.indexAddr 41 (Operand.tmp 62) (Operand.tmp 63), 0, "", #[], some (4, true)⟩).run Try.prog z = .ok (.value (.pointer (some ⟨b, o + pt * 10, none⟩))) z := by
  obtain ⟨sl, s9, sw, sr, sc, sp, s4⟩ := hS
  go_simp
theorem oa_10 (bx bw br bc bp b o n cap pt : Nat) (hp : (pt : Int) < (n : Int)) (wr er : Int) (ca : Array Value) (gv pv : Value) (r : Bool) (ev : Operand → Value) (z : World) (ec : ∀ c, ev (.const c) = c) (e64 : ev (.tmp 64) = .pointer (some ⟨b, o + pt * 10, none⟩)) (hS : (loadVar 65 ⟨bx, 0, none⟩).run Try.prog z = .ok (.agg ca) z ∧ z.cell? ⟨bx, 9, none⟩ = some gv ∧ z.cell? ⟨bw, 0, none⟩ = some (.int .i64 wr) ∧ z.cell? ⟨br, 0, none⟩ = some (.int .i64 er) ∧ z.cell? ⟨bc, 0, none⟩ = some (.slice (some ⟨b, o, none⟩) n cap) ∧ z.cell? ⟨bp, 0, none⟩ = some (.int .i64 (pt : Int)) ∧ z.cell? ⟨b, o + pt * 10 + 4, none⟩ = some pv) : (execOp ev ⟨some 65, Op.fieldAddr 65 (Operand.tmp 64) 0, 0, "", #[], some (4, true)⟩).run Try.prog z = .ok (.value (.pointer (some ⟨b, o + pt * 10, none⟩))) z := by
  obtain ⟨sl, s9, sw, sr, sc, sp, s4⟩ := hS
  go_simp
theorem oa_11 (bx bw br bc bp b o n cap pt : Nat) (hp : (pt : Int) < (n : Int)) (wr er : Int) (ca : Array Value) (gv pv : Value) (r : Bool) (ev : Operand → Value) (z : World) (ec : ∀ c, ev (.const c) = c) (e65 : ev (.tmp 65) = .pointer (some ⟨b, o + pt * 10, none⟩)) (hS : (loadVar 65 ⟨bx, 0, none⟩).run Try.prog z = .ok (.agg ca) z ∧ z.cell? ⟨bx, 9, none⟩ = some gv ∧ z.cell? ⟨bw, 0, none⟩ = some (.int .i64 wr) ∧ z.cell? ⟨br, 0, none⟩ = some (.int .i64 er) ∧ z.cell? ⟨bc, 0, none⟩ = some (.slice (some ⟨b, o, none⟩) n cap) ∧ z.cell? ⟨bp, 0, none⟩ = some (.int .i64 (pt : Int)) ∧ z.cell? ⟨b, o + pt * 10 + 4, none⟩ = some pv) : (execOp ev ⟨some 66, Op.fieldAddr 29 (Operand.tmp 65) 4, 0, "", #[], some (4, true)⟩).run Try.prog z = .ok (.value (.pointer (some ⟨b, o + pt * 10 + 4, none⟩))) z := by
  obtain ⟨sl, s9, sw, sr, sc, sp, s4⟩ := hS
  go_simp
theorem oa_12 (bx bw br bc bp b o n cap pt : Nat) (hp : (pt : Int) < (n : Int)) (wr er : Int) (ca : Array Value) (gv pv : Value) (r : Bool) (ev : Operand → Value) (z : World) (ec : ∀ c, ev (.const c) = c) (e66 : ev (.tmp 66) = .pointer (some ⟨b, o + pt * 10 + 4, none⟩)) (hS : (loadVar 65 ⟨bx, 0, none⟩).run Try.prog z = .ok (.agg ca) z ∧ z.cell? ⟨bx, 9, none⟩ = some gv ∧ z.cell? ⟨bw, 0, none⟩ = some (.int .i64 wr) ∧ z.cell? ⟨br, 0, none⟩ = some (.int .i64 er) ∧ z.cell? ⟨bc, 0, none⟩ = some (.slice (some ⟨b, o, none⟩) n cap) ∧ z.cell? ⟨bp, 0, none⟩ = some (.int .i64 (pt : Int)) ∧ z.cell? ⟨b, o + pt * 10 + 4, none⟩ = some pv) : (execOp ev ⟨some 67, Op.load 27 (Operand.tmp 66), 27, "", #[], some (4, true)⟩).run Try.prog z = .ok (.value (pv)) z := by
  obtain ⟨sl, s9, sw, sr, sc, sp, s4⟩ := hS
  go_simp
set_option maxRecDepth 100000 in
theorem oa_13 (bx bw br bc bp b o n cap pt : Nat) (hp : (pt : Int) < (n : Int)) (wr er : Int) (ca : Array Value) (gv pv : Value) (r : Bool) (ev : Operand → Value) (z : World) (ec : ∀ c, ev (.const c) = c) (ef : ev (.func 26) = .func (.func 26) #[] #[]) (e61 : ev (.tmp 61) = gv) (e67 : ev (.tmp 67) = pv) : (execOp ev ⟨some 68, Op.call { callee := Callee.value (Operand.func 26), args := #[Operand.tmp 61, Operand.tmp 67], argTypes := #[27, 27] }, 4, "", #[], some (4, true)⟩).run Try.prog z = .ok (.enter 26 #[gv, pv]) z :=
  enter_run _ ef (by simp only [List.map_toArray, List.map_cons, List.map_nil, ec, e61, e67]) (fun _ => by rfl)
theorem oa_14 (bx bw br bc bp b o n cap pt : Nat) (hp : (pt : Int) < (n : Int)) (wr er : Int) (ca : Array Value) (gv pv : Value) (r : Bool) (ev : Operand → Value) (z : World) (ec : ∀ c, ev (.const c) = c) (e59 : ev (.tmp 59) = .bool true) (e68 : ev (.tmp 68) = .bool r) (hS : (loadVar 65 ⟨bx, 0, none⟩).run Try.prog z = .ok (.agg ca) z ∧ z.cell? ⟨bx, 9, none⟩ = some gv ∧ z.cell? ⟨bw, 0, none⟩ = some (.int .i64 wr) ∧ z.cell? ⟨br, 0, none⟩ = some (.int .i64 er) ∧ z.cell? ⟨bc, 0, none⟩ = some (.slice (some ⟨b, o, none⟩) n cap) ∧ z.cell? ⟨bp, 0, none⟩ = some (.int .i64 (pt : Int)) ∧ z.cell? ⟨b, o + pt * 10 + 4, none⟩ = some pv) : (execOp ev ⟨some 69, Op.pick (Operand.tmp 59) (Operand.tmp 68) (Operand.const (Value.bool false)), 4, "", #[], none⟩).run Try.prog z = .ok (.value (.bool r)) z := by
  obtain ⟨sl, s9, sw, sr, sc, sp, s4⟩ := hS
  go_simp
theorem oa_15 (bx bw br bc bp b o n cap pt : Nat) (hp : (pt : Int) < (n : Int)) (wr er : Int) (ca : Array Value) (gv pv : Value) (r : Bool) (ev : Operand → Value) (z : World) (ec : ∀ c, ev (.const c) = c) (e69 : ev (.tmp 69) = .bool r) (hS : (loadVar 65 ⟨bx, 0, none⟩).run Try.prog z = .ok (.agg ca) z ∧ z.cell? ⟨bx, 9, none⟩ = some gv ∧ z.cell? ⟨bw, 0, none⟩ = some (.int .i64 wr) ∧ z.cell? ⟨br, 0, none⟩ = some (.int .i64 er) ∧ z.cell? ⟨bc, 0, none⟩ = some (.slice (some ⟨b, o, none⟩) n cap) ∧ z.cell? ⟨bp, 0, none⟩ = some (.int .i64 (pt : Int)) ∧ z.cell? ⟨b, o + pt * 10 + 4, none⟩ = some pv) : (execOp ev ⟨some 7, Op.assign (Operand.tmp 69), 4, "", #[], none⟩).run Try.prog z = .ok (.value (.bool r)) z := by
  obtain ⟨sl, s9, sw, sr, sc, sp, s4⟩ := hS
  go_simp
structure oaR (ops : Array Oper) : Prop where
  size : ops.size = 16
  sel : Region.noSelect ops = true
  o0 : (ops[0]?).map bare = some ⟨some 55, Op.load 65 (Operand.tmp 8), 65, "", #[], none⟩
  o1 : (ops[1]?).map bare = some ⟨some 56, Op.load 3 (Operand.tmp 3), 3, "", #[], none⟩
  o2 : (ops[2]?).map bare = some ⟨some 57, Op.load 3 (Operand.tmp 5), 3, "", #[], none⟩
  o3 : (ops[3]?).map bare = some ⟨some 58, Op.call { callee := Callee.value (Operand.func 41), args := #[Operand.tmp 55, Operand.tmp 56, Operand.tmp 57], argTypes := #[65, 3, 3] }, 4, "", #[], none⟩
  o4 : (ops[4]?).map bare = some ⟨some 59, Op.move (Operand.tmp 58), 4, "", #[], none⟩
  o5 : (ops[5]?).map bare = some ⟨some 60, Op.fieldAddr 65 (Operand.tmp 8) 5, 0, "", #[], some (4, true)⟩
  o6 : (ops[6]?).map bare = some ⟨some 61, Op.load 27 (Operand.tmp 60), 27, "", #[], some (4, true)⟩
  o7 : (ops[7]?).map bare = some ⟨some 62, Op.load 41 (Operand.tmp 1), 41, "", #[], some (4, true)⟩
  o8 : (ops[8]?).map bare = some ⟨some 63, Op.load 3 (Operand.tmp 2), 3, "", #[], some (4, true)⟩
  o9 : (ops[9]?).map bare = some ⟨some 64, Op.indexAddr 41 (Operand.tmp 62) (Operand.tmp 63), 0, "", #[], some (4, true)⟩
  o10 : (ops[10]?).map bare = some ⟨some 65, Op.fieldAddr 65 (Operand.tmp 64) 0, 0, "", #[], some (4, true)⟩
  o11 : (ops[11]?).map bare = some ⟨some 66, Op.fieldAddr 29 (Operand.tmp 65) 4, 0, "", #[], some (4, true)⟩
  o12 : (ops[12]?).map bare = some ⟨some 67, Op.load 27 (Operand.tmp 66), 27, "", #[], some (4, true)⟩
  o13 : (ops[13]?).map bare = some ⟨some 68, Op.call { callee := Callee.value (Operand.func 26), args := #[Operand.tmp 61, Operand.tmp 67], argTypes := #[27, 27] }, 4, "", #[], some (4, true)⟩
  o14 : (ops[14]?).map bare = some ⟨some 69, Op.pick (Operand.tmp 59) (Operand.tmp 68) (Operand.const (Value.bool false)), 4, "", #[], none⟩
  o15 : (ops[15]?).map bare = some ⟨some 7, Op.assign (Operand.tmp 69), 4, "", #[], none⟩
  may0 : takeB .any ops [0, 1, 2] (Array.replicate 16 false) = true
  r3 : Region.ready .any ops (mark [0, 1, 2] (Array.replicate 16 false)) = [3]
  may1 : takeB .any ops [4, 5, 6, 7, 8, 9, 10, 11, 12] ((mark [0, 1, 2] (Array.replicate 16 false)).setIfInBounds 3 true) = true
  r13 : Region.ready .any ops (mark [4, 5, 6, 7, 8, 9, 10, 11, 12] ((mark [0, 1, 2] (Array.replicate 16 false)).setIfInBounds 3 true)) = [13]
  may2 : takeB .any ops [14, 15] ((mark [4, 5, 6, 7, 8, 9, 10, 11, 12] ((mark [0, 1, 2] (Array.replicate 16 false)).setIfInBounds 3 true)).setIfInBounds 13 true) = true
  fin : Region.ready .any ops (mark [14, 15] ((mark [4, 5, 6, 7, 8, 9, 10, 11, 12] ((mark [0, 1, 2] (Array.replicate 16 false)).setIfInBounds 3 true)).setIfInBounds 13 true)) = []

set_option maxRecDepth 100000 in
set_option maxHeartbeats 3200000 in
theorem oa_region {ops : Array Oper} {id : Nat} {Q : Exit → Act → World → Prop} {a : Act} {y : World} (R : oaR ops) (bx bw br bc bp b o n cap pt : Nat) (hp : (pt : Int) < (n : Int)) (wr er : Int) (ca : Array Value) (gv pv : Value) (r : Bool)
    (hQ : ∀ d v c a w, Q (.panic c) (a.put d v) w → Q (.panic c) a w) (hsz : a.tmps.size = 70) (e1 : a.eval (.tmp 1) = .pointer (some ⟨bc, 0, none⟩)) (e2 : a.eval (.tmp 2) = .pointer (some ⟨bp, 0, none⟩)) (e3 : a.eval (.tmp 3) = .pointer (some ⟨bw, 0, none⟩)) (e5 : a.eval (.tmp 5) = .pointer (some ⟨br, 0, none⟩)) (e8 : a.eval (.tmp 8) = .pointer (some ⟨bx, 0, none⟩)) (hS0 : (loadVar 65 ⟨bx, 0, none⟩).run Try.prog y.drew = .ok (.agg ca) y.drew ∧ y.drew.cell? ⟨bx, 9, none⟩ = some gv ∧ y.drew.cell? ⟨bw, 0, none⟩ = some (.int .i64 wr) ∧ y.drew.cell? ⟨br, 0, none⟩ = some (.int .i64 er) ∧ y.drew.cell? ⟨bc, 0, none⟩ = some (.slice (some ⟨b, o, none⟩) n cap) ∧ y.drew.cell? ⟨bp, 0, none⟩ = some (.int .i64 (pt : Int)) ∧ y.drew.cell? ⟨b, o + pt * 10 + 4, none⟩ = some pv) (T : World → Prop) (hc : Calls Try.prog 41 #[.agg ca, .int .i64 wr, .int .i64 er] y.drew fun e w9 => e = .returned (.bool true) ∧ ((loadVar 65 ⟨bx, 0, none⟩).run Try.prog w9 = .ok (.agg ca) w9 ∧ w9.cell? ⟨bx, 9, none⟩ = some gv ∧ w9.cell? ⟨bw, 0, none⟩ = some (.int .i64 wr) ∧ w9.cell? ⟨br, 0, none⟩ = some (.int .i64 er) ∧ w9.cell? ⟨bc, 0, none⟩ = some (.slice (some ⟨b, o, none⟩) n cap) ∧ w9.cell? ⟨bp, 0, none⟩ = some (.int .i64 (pt : Int)) ∧ w9.cell? ⟨b, o + pt * 10 + 4, none⟩ = some pv) ∧ Calls Try.prog 26 #[gv, pv] w9 fun e w8 => e = .returned (.bool r) ∧ ((loadVar 65 ⟨bx, 0, none⟩).run Try.prog w8 = .ok (.agg ca) w8 ∧ w8.cell? ⟨bx, 9, none⟩ = some gv ∧ w8.cell? ⟨bw, 0, none⟩ = some (.int .i64 wr) ∧ w8.cell? ⟨br, 0, none⟩ = some (.int .i64 er) ∧ w8.cell? ⟨bc, 0, none⟩ = some (.slice (some ⟨b, o, none⟩) n cap) ∧ w8.cell? ⟨bp, 0, none⟩ = some (.int .i64 (pt : Int)) ∧ w8.cell? ⟨b, o + pt * 10 + 4, none⟩ = some pv) ∧ T w8)
    (hK : ∀ w8 : World, T w8 → Q .normal ((((((((((((((((a.put (some 55) (.agg ca)).put (some 56) (.int .i64 wr)).put (some 57) (.int .i64 er)).put (some 58) (.bool true)).put (some 59) (.bool true)).put (some 60) (.pointer (some ⟨bx, 9, none⟩))).put (some 61) (gv)).put (some 62) (.slice (some ⟨b, o, none⟩) n cap)).put (some 63) (.int .i64 (pt : Int))).put (some 64) (.pointer (some ⟨b, o + pt * 10, none⟩))).put (some 65) (.pointer (some ⟨b, o + pt * 10, none⟩))).put (some 66) (.pointer (some ⟨b, o + pt * 10 + 4, none⟩))).put (some 67) (pv)).put (some 68) (.bool r)).put (some 69) (.bool r)).put (some 7) (.bool r)) w8) : (Code.region id ops true).wp Try.prog Q a y := by
  have HR : Hid (oaR ops) := R
  have hdf : a.defers = a.defers := rfl
  refine wp_region_held_drew (S := (fun z : World => (loadVar 65 ⟨bx, 0, none⟩).run Try.prog z = .ok (.agg ca) z ∧ z.cell? ⟨bx, 9, none⟩ = some gv ∧ z.cell? ⟨bw, 0, none⟩ = some (.int .i64 wr) ∧ z.cell? ⟨br, 0, none⟩ = some (.int .i64 er) ∧ z.cell? ⟨bc, 0, none⟩ = some (.slice (some ⟨b, o, none⟩) n cap) ∧ z.cell? ⟨bp, 0, none⟩ = some (.int .i64 (pt : Int)) ∧ z.cell? ⟨b, o + pt * 10 + 4, none⟩ = some pv)) (by kernel_rfl) (hS0) (fun hHeld => ?_)
  rw [R.size]
  clear R
  refine wpAnyH_takes HR.out.sel hQ hHeld [0, 1, 2] 13 _ _ HR.out.may0 ?_
  refine wpTake_stepE ⟨some 55, Op.load 65 (Operand.tmp 8), 65, "", #[], none⟩ 55 (.agg ca) HR.out.o0 rfl (by rw [hsz]; decide) (wanted_none rfl) (fun z hS => oa_0 bx bw br bc bp b o n cap pt hp wr er ca gv pv r _ z (fun _ => rfl) e8 hS) ?_
  intro a1 ha1 s1 f1 n1 k1
  replace hsz := s1.trans hsz
  replace hdf := f1.trans hdf
  replace e1 := (k1 1 (by decide)).trans e1
  replace e2 := (k1 2 (by decide)).trans e2
  replace e3 := (k1 3 (by decide)).trans e3
  replace e5 := (k1 5 (by decide)).trans e5
  replace e8 := (k1 8 (by decide)).trans e8
  have e55 := n1
  clear s1 f1 n1 k1
  refine wpTake_stepE ⟨some 56, Op.load 3 (Operand.tmp 3), 3, "", #[], none⟩ 56 (.int .i64 wr) HR.out.o1 rfl (by rw [hsz]; decide) (wanted_none rfl) (fun z hS => oa_1 bx bw br bc bp b o n cap pt hp wr er ca gv pv r _ z (fun _ => rfl) e3 hS) ?_
  intro a2 ha2 s1 f1 n1 k1
  replace hsz := s1.trans hsz
  replace hdf := f1.trans hdf
  replace e1 := (k1 1 (by decide)).trans e1
  replace e2 := (k1 2 (by decide)).trans e2
  replace e5 := (k1 5 (by decide)).trans e5
  replace e8 := (k1 8 (by decide)).trans e8
  replace e55 := (k1 55 (by decide)).trans e55
  have e56 := n1
  clear s1 f1 n1 k1
  refine wpTake_stepE ⟨some 57, Op.load 3 (Operand.tmp 5), 3, "", #[], none⟩ 57 (.int .i64 er) HR.out.o2 rfl (by rw [hsz]; decide) (wanted_none rfl) (fun z hS => oa_2 bx bw br bc bp b o n cap pt hp wr er ca gv pv r _ z (fun _ => rfl) e5 hS) ?_
  intro a3 ha3 s1 f1 n1 k1
  replace hsz := s1.trans hsz
  replace hdf := f1.trans hdf
  replace e1 := (k1 1 (by decide)).trans e1
  replace e2 := (k1 2 (by decide)).trans e2
  replace e8 := (k1 8 (by decide)).trans e8
  replace e55 := (k1 55 (by decide)).trans e55
  replace e56 := (k1 56 (by decide)).trans e56
  have e57 := n1
  clear s1 f1 n1 k1
  refine wpTake_nil ?_
  refine wpAnyH_one ⟨some 58, Op.call { callee := Callee.value (Operand.func 41), args := #[Operand.tmp 55, Operand.tmp 56, Operand.tmp 57], argTypes := #[65, 3, 3] }, 4, "", #[], none⟩ HR.out.r3 HR.out.o3 rfl (fun K' hK' => ?_)
  refine wp_enter (oa_3 bx bw br bc bp b o n cap pt hp wr er ca gv pv r _ _ (fun _ => rfl) rfl e55 e56 e57) (hc) ?_
  rintro e9 w9 ⟨rfl, hS9, hc8⟩
  refine ⟨_, rfl, hK'.out _ _ (hS9) ?_⟩
  replace hHeld := hS9
  clear hK' K'
  show wpAnyH _ _ _ _ _ _ _ (Act.put a3 (some 58) (.bool true)) _
  obtain ⟨s1, f1, n1, k1⟩ := act_put a3 58 (.bool true) (show 58 < _ by rw [hsz]; decide)
  obtain ⟨a4, ha4⟩ : ∃ x, x = Act.put a3 (some 58) (.bool true) := ⟨_, rfl⟩
  rw [← ha4] at s1 f1 n1 k1 ⊢
  replace hsz := s1.trans hsz
  replace hdf := f1.trans hdf
  replace e1 := (k1 1 (by decide)).trans e1
  replace e2 := (k1 2 (by decide)).trans e2
  replace e8 := (k1 8 (by decide)).trans e8
  have e58 := n1
  clear s1 f1 n1 k1
  refine wpAnyH_takes HR.out.sel hQ hHeld [4, 5, 6, 7, 8, 9, 10, 11, 12] 3 _ _ HR.out.may1 ?_
  refine wpTake_stepE ⟨some 59, Op.move (Operand.tmp 58), 4, "", #[], none⟩ 59 (.bool true) HR.out.o4 rfl (by rw [hsz]; decide) (wanted_none rfl) (fun z hS => oa_4 bx bw br bc bp b o n cap pt hp wr er ca gv pv r _ z (fun _ => rfl) e58 hS) ?_
  intro a5 ha5 s1 f1 n1 k1
  replace hsz := s1.trans hsz
  replace hdf := f1.trans hdf
  replace e1 := (k1 1 (by decide)).trans e1
  replace e2 := (k1 2 (by decide)).trans e2
  replace e8 := (k1 8 (by decide)).trans e8
  have e59 := n1
  clear s1 f1 n1 k1
  refine wpTake_stepE ⟨some 60, Op.fieldAddr 65 (Operand.tmp 8) 5, 0, "", #[], some (4, true)⟩ 60 (.pointer (some ⟨bx, 9, none⟩)) HR.out.o5 rfl (by rw [hsz]; decide) (wanted_some rfl (yielded_of HR.out.o4 rfl e59 (by rw [hsz]; decide))) (fun z hS => oa_5 bx bw br bc bp b o n cap pt hp wr er ca gv pv r _ z (fun _ => rfl) e8 hS) ?_
  intro a6 ha6 s1 f1 n1 k1
  replace hsz := s1.trans hsz
  replace hdf := f1.trans hdf
  replace e1 := (k1 1 (by decide)).trans e1
  replace e2 := (k1 2 (by decide)).trans e2
  replace e59 := (k1 59 (by decide)).trans e59
  have e60 := n1
  clear s1 f1 n1 k1
  refine wpTake_stepE ⟨some 61, Op.load 27 (Operand.tmp 60), 27, "", #[], some (4, true)⟩ 61 (gv) HR.out.o6 rfl (by rw [hsz]; decide) (wanted_some rfl (yielded_of HR.out.o4 rfl e59 (by rw [hsz]; decide))) (fun z hS => oa_6 bx bw br bc bp b o n cap pt hp wr er ca gv pv r _ z (fun _ => rfl) e60 hS) ?_
  intro a7 ha7 s1 f1 n1 k1
  replace hsz := s1.trans hsz
  replace hdf := f1.trans hdf
  replace e1 := (k1 1 (by decide)).trans e1
  replace e2 := (k1 2 (by decide)).trans e2
  replace e59 := (k1 59 (by decide)).trans e59
  have e61 := n1
  clear s1 f1 n1 k1
  refine wpTake_stepE ⟨some 62, Op.load 41 (Operand.tmp 1), 41, "", #[], some (4, true)⟩ 62 (.slice (some ⟨b, o, none⟩) n cap) HR.out.o7 rfl (by rw [hsz]; decide) (wanted_some rfl (yielded_of HR.out.o4 rfl e59 (by rw [hsz]; decide))) (fun z hS => oa_7 bx bw br bc bp b o n cap pt hp wr er ca gv pv r _ z (fun _ => rfl) e1 hS) ?_
  intro a8 ha8 s1 f1 n1 k1
  replace hsz := s1.trans hsz
  replace hdf := f1.trans hdf
  replace e2 := (k1 2 (by decide)).trans e2
  replace e59 := (k1 59 (by decide)).trans e59
  replace e61 := (k1 61 (by decide)).trans e61
  have e62 := n1
  clear s1 f1 n1 k1
  refine wpTake_stepE ⟨some 63, Op.load 3 (Operand.tmp 2), 3, "", #[], some (4, true)⟩ 63 (.int .i64 (pt : Int)) HR.out.o8 rfl (by rw [hsz]; decide) (wanted_some rfl (yielded_of HR.out.o4 rfl e59 (by rw [hsz]; decide))) (fun z hS => oa_8 bx bw br bc bp b o n cap pt hp wr er ca gv pv r _ z (fun _ => rfl) e2 hS) ?_
  intro a9 ha9 s1 f1 n1 k1
  replace hsz := s1.trans hsz
  replace hdf := f1.trans hdf
  replace e59 := (k1 59 (by decide)).trans e59
  replace e61 := (k1 61 (by decide)).trans e61
  replace e62 := (k1 62 (by decide)).trans e62
  have e63 := n1
  clear s1 f1 n1 k1
  refine wpTake_stepE ⟨some 64, Op.indexAddr 41 (Operand.tmp 62) (Operand.tmp 63), 0, "", #[], some (4, true)⟩ 64 (.pointer (some ⟨b, o + pt * 10, none⟩)) HR.out.o9 rfl (by rw [hsz]; decide) (wanted_some rfl (yielded_of HR.out.o4 rfl e59 (by rw [hsz]; decide))) (fun z hS => oa_9 bx bw br bc bp b o n cap pt hp wr er ca gv pv r _ z (fun _ => rfl) e62 e63 hS) ?_
  intro a10 ha10 s1 f1 n1 k1
  replace hsz := s1.trans hsz
  replace hdf := f1.trans hdf
  replace e59 := (k1 59 (by decide)).trans e59
  replace e61 := (k1 61 (by decide)).trans e61
  have e64 := n1
  clear s1 f1 n1 k1
  refine wpTake_stepE ⟨some 65, Op.fieldAddr 65 (Operand.tmp 64) 0, 0, "", #[], some (4, true)⟩ 65 (.pointer (some ⟨b, o + pt * 10, none⟩)) HR.out.o10 rfl (by rw [hsz]; decide) (wanted_some rfl (yielded_of HR.out.o4 rfl e59 (by rw [hsz]; decide))) (fun z hS => oa_10 bx bw br bc bp b o n cap pt hp wr er ca gv pv r _ z (fun _ => rfl) e64 hS) ?_
  intro a11 ha11 s1 f1 n1 k1
  replace hsz := s1.trans hsz
  replace hdf := f1.trans hdf
  replace e59 := (k1 59 (by decide)).trans e59
  replace e61 := (k1 61 (by decide)).trans e61
  have e65 := n1
  clear s1 f1 n1 k1
  refine wpTake_stepE ⟨some 66, Op.fieldAddr 29 (Operand.tmp 65) 4, 0, "", #[], some (4, true)⟩ 66 (.pointer (some ⟨b, o + pt * 10 + 4, none⟩)) HR.out.o11 rfl (by rw [hsz]; decide) (wanted_some rfl (yielded_of HR.out.o4 rfl e59 (by rw [hsz]; decide))) (fun z hS => oa_11 bx bw br bc bp b o n cap pt hp wr er ca gv pv r _ z (fun _ => rfl) e65 hS) ?_
  intro a12 ha12 s1 f1 n1 k1
  replace hsz := s1.trans hsz
  replace hdf := f1.trans hdf
  replace e59 := (k1 59 (by decide)).trans e59
  replace e61 := (k1 61 (by decide)).trans e61
  have e66 := n1
  clear s1 f1 n1 k1
  refine wpTake_stepE ⟨some 67, Op.load 27 (Operand.tmp 66), 27, "", #[], some (4, true)⟩ 67 (pv) HR.out.o12 rfl (by rw [hsz]; decide) (wanted_some rfl (yielded_of HR.out.o4 rfl e59 (by rw [hsz]; decide))) (fun z hS => oa_12 bx bw br bc bp b o n cap pt hp wr er ca gv pv r _ z (fun _ => rfl) e66 hS) ?_
  intro a13 ha13 s1 f1 n1 k1
  replace hsz := s1.trans hsz
  replace hdf := f1.trans hdf
  replace e59 := (k1 59 (by decide)).trans e59
  replace e61 := (k1 61 (by decide)).trans e61
  have e67 := n1
  clear s1 f1 n1 k1
  refine wpTake_nil ?_
  refine wpAnyH_oneG ⟨some 68, Op.call { callee := Callee.value (Operand.func 26), args := #[Operand.tmp 61, Operand.tmp 67], argTypes := #[27, 27] }, 4, "", #[], some (4, true)⟩ HR.out.r13 HR.out.o13 (wanted_some rfl (yielded_of HR.out.o4 rfl e59 (by rw [hsz]; decide))) (fun K' hK' => ?_)
  refine wp_enter (oa_13 bx bw br bc bp b o n cap pt hp wr er ca gv pv r _ _ (fun _ => rfl) rfl e61 e67) (hc8) ?_
  rintro e9 w9 ⟨rfl, hS8, hT⟩
  refine ⟨_, rfl, hK'.out _ _ (hS8) ?_⟩
  replace hHeld := hS8
  clear hK' K'
  show wpAnyH _ _ _ _ _ _ _ (Act.put a13 (some 68) (.bool r)) _
  obtain ⟨s1, f1, n1, k1⟩ := act_put a13 68 (.bool r) (show 68 < _ by rw [hsz]; decide)
  obtain ⟨a14, ha14⟩ : ∃ x, x = Act.put a13 (some 68) (.bool r) := ⟨_, rfl⟩
  rw [← ha14] at s1 f1 n1 k1 ⊢
  replace hsz := s1.trans hsz
  replace hdf := f1.trans hdf
  replace e59 := (k1 59 (by decide)).trans e59
  have e68 := n1
  clear s1 f1 n1 k1
  refine wpAnyH_takes HR.out.sel hQ hHeld [14, 15] 0 _ _ HR.out.may2 ?_
  refine wpTake_stepE ⟨some 69, Op.pick (Operand.tmp 59) (Operand.tmp 68) (Operand.const (Value.bool false)), 4, "", #[], none⟩ 69 (.bool r) HR.out.o14 rfl (by rw [hsz]; decide) (wanted_none rfl) (fun z hS => oa_14 bx bw br bc bp b o n cap pt hp wr er ca gv pv r _ z (fun _ => rfl) e59 e68 hS) ?_
  intro a15 ha15 s1 f1 n1 k1
  replace hsz := s1.trans hsz
  replace hdf := f1.trans hdf
  have e69 := n1
  clear s1 f1 n1 k1
  refine wpTake_stepE ⟨some 7, Op.assign (Operand.tmp 69), 4, "", #[], none⟩ 7 (.bool r) HR.out.o15 rfl (by rw [hsz]; decide) (wanted_none rfl) (fun z hS => oa_15 bx bw br bc bp b o n cap pt hp wr er ca gv pv r _ z (fun _ => rfl) e69 hS) ?_
  intro a16 ha16 s1 f1 n1 k1
  replace hsz := s1.trans hsz
  replace hdf := f1.trans hdf
  clear s1 f1 n1 k1
  refine wpTake_nil ?_
  refine wpAnyH_done HR.out.fin ?_ _
  rw [ha16, ha15, ha14, ha13, ha12, ha11, ha10, ha9, ha8, ha7, ha6, ha5, ha4, ha3, ha2, ha1]
  exact hK _ hT
-- R: ⟨by kernel_rfl, by kernel_rfl, by kernel_rfl, by kernel_rfl, by kernel_rfl, by kernel_rfl, by kernel_rfl, by kernel_rfl, by kernel_rfl, by kernel_rfl, by kernel_rfl, by kernel_rfl, by kernel_rfl, by kernel_rfl, by kernel_rfl, by kernel_rfl, by kernel_rfl, by kernel_rfl, by kernel_rfl, by kernel_rfl, by kernel_rfl, by kernel_rfl, by kernel_rfl, by kernel_rfl⟩

theorem ob_0 (bx bw br bc bp b o n cap pt : Nat) (hp : (pt : Int) < (n : Int)) (wr er : Int) (ca : Array Value) (gv pv : Value) (r : Bool) (ev : Operand → Value) (z : World) (ec : ∀ c, ev (.const c) = c) (e8 : ev (.tmp 8) = .pointer (some ⟨bx, 0, none⟩)) (hS : (loadVar 65 ⟨bx, 0, none⟩).run Try.prog z = .ok (.agg ca) z ∧ z.cell? ⟨bx, 9, none⟩ = some gv ∧ z.cell? ⟨bw, 0, none⟩ = some (.int .i64 wr) ∧ z.cell? ⟨br, 0, none⟩ = some (.int .i64 er) ∧ z.cell? ⟨bc, 0, none⟩ = some (.slice (some ⟨b, o, none⟩) n cap) ∧ z.cell? ⟨bp, 0, none⟩ = some (.int .i64 (pt : Int)) ∧ z.cell? ⟨b, o + pt * 10 + 4, none⟩ = some pv) : (execOp ev ⟨some 55, Op.load 65 (Operand.tmp 8), 65, "", #[], none⟩).run Try.prog z = .ok (.value (.agg ca)) z := by
  exact exec_ldr e8 hS.1
theorem ob_1 (bx bw br bc bp b o n cap pt : Nat) (hp : (pt : Int) < (n : Int)) (wr er : Int) (ca : Array Value) (gv pv : Value) (r : Bool) (ev : Operand → Value) (z : World) (ec : ∀ c, ev (.const c) = c) (e3 : ev (.tmp 3) = .pointer (some ⟨bw, 0, none⟩)) (hS : (loadVar 65 ⟨bx, 0, none⟩).run Try.prog z = .ok (.agg ca) z ∧ z.cell? ⟨bx, 9, none⟩ = some gv ∧ z.cell? ⟨bw, 0, none⟩ = some (.int .i64 wr) ∧ z.cell? ⟨br, 0, none⟩ = some (.int .i64 er) ∧ z.cell? ⟨bc, 0, none⟩ = some (.slice (some ⟨b, o, none⟩) n cap) ∧ z.cell? ⟨bp, 0, none⟩ = some (.int .i64 (pt : Int)) ∧ z.cell? ⟨b, o + pt * 10 + 4, none⟩ = some pv) : (execOp ev ⟨some 56, Op.load 3 (Operand.tmp 3), 3, "", #[], none⟩).run Try.prog z = .ok (.value (.int .i64 wr)) z := by
  obtain ⟨sl, s9, sw, sr, sc, sp, s4⟩ := hS
  go_simp
theorem ob_2 (bx bw br bc bp b o n cap pt : Nat) (hp : (pt : Int) < (n : Int)) (wr er : Int) (ca : Array Value) (gv pv : Value) (r : Bool) (ev : Operand → Value) (z : World) (ec : ∀ c, ev (.const c) = c) (e5 : ev (.tmp 5) = .pointer (some ⟨br, 0, none⟩)) (hS : (loadVar 65 ⟨bx, 0, none⟩).run Try.prog z = .ok (.agg ca) z ∧ z.cell? ⟨bx, 9, none⟩ = some gv ∧ z.cell? ⟨bw, 0, none⟩ = some (.int .i64 wr) ∧ z.cell? ⟨br, 0, none⟩ = some (.int .i64 er) ∧ z.cell? ⟨bc, 0, none⟩ = some (.slice (some ⟨b, o, none⟩) n cap) ∧ z.cell? ⟨bp, 0, none⟩ = some (.int .i64 (pt : Int)) ∧ z.cell? ⟨b, o + pt * 10 + 4, none⟩ = some pv) : (execOp ev ⟨some 57, Op.load 3 (Operand.tmp 5), 3, "", #[], none⟩).run Try.prog z = .ok (.value (.int .i64 er)) z := by
  obtain ⟨sl, s9, sw, sr, sc, sp, s4⟩ := hS
  go_simp
set_option maxRecDepth 100000 in
theorem ob_3 (bx bw br bc bp b o n cap pt : Nat) (hp : (pt : Int) < (n : Int)) (wr er : Int) (ca : Array Value) (gv pv : Value) (r : Bool) (ev : Operand → Value) (z : World) (ec : ∀ c, ev (.const c) = c) (ef : ev (.func 41) = .func (.func 41) #[] #[]) (e55 : ev (.tmp 55) = .agg ca) (e56 : ev (.tmp 56) = .int .i64 wr) (e57 : ev (.tmp 57) = .int .i64 er) : (execOp ev ⟨some 58, Op.call { callee := Callee.value (Operand.func 41), args := #[Operand.tmp 55, Operand.tmp 56, Operand.tmp 57], argTypes := #[65, 3, 3] }, 4, "", #[], none⟩).run Try.prog z = .ok (.enter 41 #[.agg ca, .int .i64 wr, .int .i64 er]) z :=
  enter_run _ ef (by simp only [List.map_toArray, List.map_cons, List.map_nil, ec, e55, e56, e57]) (fun _ => by rfl)
theorem ob_4 (bx bw br bc bp b o n cap pt : Nat) (hp : (pt : Int) < (n : Int)) (wr er : Int) (ca : Array Value) (gv pv : Value) (r : Bool) (ev : Operand → Value) (z : World) (ec : ∀ c, ev (.const c) = c) (e58 : ev (.tmp 58) = .bool false) (hS : (loadVar 65 ⟨bx, 0, none⟩).run Try.prog z = .ok (.agg ca) z ∧ z.cell? ⟨bx, 9, none⟩ = some gv ∧ z.cell? ⟨bw, 0, none⟩ = some (.int .i64 wr) ∧ z.cell? ⟨br, 0, none⟩ = some (.int .i64 er) ∧ z.cell? ⟨bc, 0, none⟩ = some (.slice (some ⟨b, o, none⟩) n cap) ∧ z.cell? ⟨bp, 0, none⟩ = some (.int .i64 (pt : Int)) ∧ z.cell? ⟨b, o + pt * 10 + 4, none⟩ = some pv) : (execOp ev ⟨some 59, Op.move (Operand.tmp 58), 4, "", #[], none⟩).run Try.prog z = .ok (.value (.bool false)) z := by
  obtain ⟨sl, s9, sw, sr, sc, sp, s4⟩ := hS
  go_simp
theorem ob_14 (bx bw br bc bp b o n cap pt : Nat) (hp : (pt : Int) < (n : Int)) (wr er : Int) (ca : Array Value) (gv pv : Value) (r : Bool) (ev : Operand → Value) (z : World) (ec : ∀ c, ev (.const c) = c) (e59 : ev (.tmp 59) = .bool false) (e68 : ev (.tmp 68) = undef) (hS : (loadVar 65 ⟨bx, 0, none⟩).run Try.prog z = .ok (.agg ca) z ∧ z.cell? ⟨bx, 9, none⟩ = some gv ∧ z.cell? ⟨bw, 0, none⟩ = some (.int .i64 wr) ∧ z.cell? ⟨br, 0, none⟩ = some (.int .i64 er) ∧ z.cell? ⟨bc, 0, none⟩ = some (.slice (some ⟨b, o, none⟩) n cap) ∧ z.cell? ⟨bp, 0, none⟩ = some (.int .i64 (pt : Int)) ∧ z.cell? ⟨b, o + pt * 10 + 4, none⟩ = some pv) : (execOp ev ⟨some 69, Op.pick (Operand.tmp 59) (Operand.tmp 68) (Operand.const (Value.bool false)), 4, "", #[], none⟩).run Try.prog z = .ok (.value (.bool false)) z := by
  obtain ⟨sl, s9, sw, sr, sc, sp, s4⟩ := hS
  go_simp
theorem ob_15 (bx bw br bc bp b o n cap pt : Nat) (hp : (pt : Int) < (n : Int)) (wr er : Int) (ca : Array Value) (gv pv : Value) (r : Bool) (ev : Operand → Value) (z : World) (ec : ∀ c, ev (.const c) = c) (e69 : ev (.tmp 69) = .bool false) (hS : (loadVar 65 ⟨bx, 0, none⟩).run Try.prog z = .ok (.agg ca) z ∧ z.cell? ⟨bx, 9, none⟩ = some gv ∧ z.cell? ⟨bw, 0, none⟩ = some (.int .i64 wr) ∧ z.cell? ⟨br, 0, none⟩ = some (.int .i64 er) ∧ z.cell? ⟨bc, 0, none⟩ = some (.slice (some ⟨b, o, none⟩) n cap) ∧ z.cell? ⟨bp, 0, none⟩ = some (.int .i64 (pt : Int)) ∧ z.cell? ⟨b, o + pt * 10 + 4, none⟩ = some pv) : (execOp ev ⟨some 7, Op.assign (Operand.tmp 69), 4, "", #[], none⟩).run Try.prog z = .ok (.value (.bool false)) z := by
  obtain ⟨sl, s9, sw, sr, sc, sp, s4⟩ := hS
  go_simp
structure obR (ops : Array Oper) : Prop where
  size : ops.size = 16
  sel : Region.noSelect ops = true
  o0 : (ops[0]?).map bare = some ⟨some 55, Op.load 65 (Operand.tmp 8), 65, "", #[], none⟩
  o1 : (ops[1]?).map bare = some ⟨some 56, Op.load 3 (Operand.tmp 3), 3, "", #[], none⟩
  o2 : (ops[2]?).map bare = some ⟨some 57, Op.load 3 (Operand.tmp 5), 3, "", #[], none⟩
  o3 : (ops[3]?).map bare = some ⟨some 58, Op.call { callee := Callee.value (Operand.func 41), args := #[Operand.tmp 55, Operand.tmp 56, Operand.tmp 57], argTypes := #[65, 3, 3] }, 4, "", #[], none⟩
  o4 : (ops[4]?).map bare = some ⟨some 59, Op.move (Operand.tmp 58), 4, "", #[], none⟩
  o5 : (ops[5]?).map bare = some ⟨some 60, Op.fieldAddr 65 (Operand.tmp 8) 5, 0, "", #[], some (4, true)⟩
  o6 : (ops[6]?).map bare = some ⟨some 61, Op.load 27 (Operand.tmp 60), 27, "", #[], some (4, true)⟩
  o7 : (ops[7]?).map bare = some ⟨some 62, Op.load 41 (Operand.tmp 1), 41, "", #[], some (4, true)⟩
  o8 : (ops[8]?).map bare = some ⟨some 63, Op.load 3 (Operand.tmp 2), 3, "", #[], some (4, true)⟩
  o9 : (ops[9]?).map bare = some ⟨some 64, Op.indexAddr 41 (Operand.tmp 62) (Operand.tmp 63), 0, "", #[], some (4, true)⟩
  o10 : (ops[10]?).map bare = some ⟨some 65, Op.fieldAddr 65 (Operand.tmp 64) 0, 0, "", #[], some (4, true)⟩
  o11 : (ops[11]?).map bare = some ⟨some 66, Op.fieldAddr 29 (Operand.tmp 65) 4, 0, "", #[], some (4, true)⟩
  o12 : (ops[12]?).map bare = some ⟨some 67, Op.load 27 (Operand.tmp 66), 27, "", #[], some (4, true)⟩
  o13 : (ops[13]?).map bare = some ⟨some 68, Op.call { callee := Callee.value (Operand.func 26), args := #[Operand.tmp 61, Operand.tmp 67], argTypes := #[27, 27] }, 4, "", #[], some (4, true)⟩
  o14 : (ops[14]?).map bare = some ⟨some 69, Op.pick (Operand.tmp 59) (Operand.tmp 68) (Operand.const (Value.bool false)), 4, "", #[], none⟩
  o15 : (ops[15]?).map bare = some ⟨some 7, Op.assign (Operand.tmp 69), 4, "", #[], none⟩
  may0 : takeB .any ops [0, 1, 2] (Array.replicate 16 false) = true
  r3 : Region.ready .any ops (mark [0, 1, 2] (Array.replicate 16 false)) = [3]
  may1 : takeB .any ops [4, 5, 6, 7, 8, 9, 10, 11, 12] ((mark [0, 1, 2] (Array.replicate 16 false)).setIfInBounds 3 true) = true
  r13 : Region.ready .any ops (mark [4, 5, 6, 7, 8, 9, 10, 11, 12] ((mark [0, 1, 2] (Array.replicate 16 false)).setIfInBounds 3 true)) = [13]
  may2 : takeB .any ops [14, 15] ((mark [4, 5, 6, 7, 8, 9, 10, 11, 12] ((mark [0, 1, 2] (Array.replicate 16 false)).setIfInBounds 3 true)).setIfInBounds 13 true) = true
  fin : Region.ready .any ops (mark [14, 15] ((mark [4, 5, 6, 7, 8, 9, 10, 11, 12] ((mark [0, 1, 2] (Array.replicate 16 false)).setIfInBounds 3 true)).setIfInBounds 13 true)) = []

set_option maxRecDepth 100000 in
set_option maxHeartbeats 3200000 in
theorem ob_region {ops : Array Oper} {id : Nat} {Q : Exit → Act → World → Prop} {a : Act} {y : World} (R : obR ops) (bx bw br bc bp b o n cap pt : Nat) (hp : (pt : Int) < (n : Int)) (wr er : Int) (ca : Array Value) (gv pv : Value) (r : Bool)
    (hQ : ∀ d v c a w, Q (.panic c) (a.put d v) w → Q (.panic c) a w) (hsz : a.tmps.size = 70) (e1 : a.eval (.tmp 1) = .pointer (some ⟨bc, 0, none⟩)) (e2 : a.eval (.tmp 2) = .pointer (some ⟨bp, 0, none⟩)) (e3 : a.eval (.tmp 3) = .pointer (some ⟨bw, 0, none⟩)) (e5 : a.eval (.tmp 5) = .pointer (some ⟨br, 0, none⟩)) (e8 : a.eval (.tmp 8) = .pointer (some ⟨bx, 0, none⟩)) (hS0 : (loadVar 65 ⟨bx, 0, none⟩).run Try.prog y.drew = .ok (.agg ca) y.drew ∧ y.drew.cell? ⟨bx, 9, none⟩ = some gv ∧ y.drew.cell? ⟨bw, 0, none⟩ = some (.int .i64 wr) ∧ y.drew.cell? ⟨br, 0, none⟩ = some (.int .i64 er) ∧ y.drew.cell? ⟨bc, 0, none⟩ = some (.slice (some ⟨b, o, none⟩) n cap) ∧ y.drew.cell? ⟨bp, 0, none⟩ = some (.int .i64 (pt : Int)) ∧ y.drew.cell? ⟨b, o + pt * 10 + 4, none⟩ = some pv) (T : World → Prop) (hc : Calls Try.prog 41 #[.agg ca, .int .i64 wr, .int .i64 er] y.drew fun e w9 => e = .returned (.bool false) ∧ ((loadVar 65 ⟨bx, 0, none⟩).run Try.prog w9 = .ok (.agg ca) w9 ∧ w9.cell? ⟨bx, 9, none⟩ = some gv ∧ w9.cell? ⟨bw, 0, none⟩ = some (.int .i64 wr) ∧ w9.cell? ⟨br, 0, none⟩ = some (.int .i64 er) ∧ w9.cell? ⟨bc, 0, none⟩ = some (.slice (some ⟨b, o, none⟩) n cap) ∧ w9.cell? ⟨bp, 0, none⟩ = some (.int .i64 (pt : Int)) ∧ w9.cell? ⟨b, o + pt * 10 + 4, none⟩ = some pv) ∧ T w9)
    (hK : ∀ w9 : World, T w9 → Q .normal ((((((((((((((((a.put (some 55) (.agg ca)).put (some 56) (.int .i64 wr)).put (some 57) (.int .i64 er)).put (some 58) (.bool false)).put (some 59) (.bool false)).put (some 60) (undef)).put (some 61) (undef)).put (some 62) (undef)).put (some 63) (undef)).put (some 64) (undef)).put (some 65) (undef)).put (some 66) (undef)).put (some 67) (undef)).put (some 68) (undef)).put (some 69) (.bool false)).put (some 7) (.bool false)) w9) : (Code.region id ops true).wp Try.prog Q a y := by
  have HR : Hid (obR ops) := R
  have hdf : a.defers = a.defers := rfl
  refine wp_region_held_drew (S := (fun z : World => (loadVar 65 ⟨bx, 0, none⟩).run Try.prog z = .ok (.agg ca) z ∧ z.cell? ⟨bx, 9, none⟩ = some gv ∧ z.cell? ⟨bw, 0, none⟩ = some (.int .i64 wr) ∧ z.cell? ⟨br, 0, none⟩ = some (.int .i64 er) ∧ z.cell? ⟨bc, 0, none⟩ = some (.slice (some ⟨b, o, none⟩) n cap) ∧ z.cell? ⟨bp, 0, none⟩ = some (.int .i64 (pt : Int)) ∧ z.cell? ⟨b, o + pt * 10 + 4, none⟩ = some pv)) (by kernel_rfl) (hS0) (fun hHeld => ?_)
  rw [R.size]
  clear R
  refine wpAnyH_takes HR.out.sel hQ hHeld [0, 1, 2] 13 _ _ HR.out.may0 ?_
  refine wpTake_stepE ⟨some 55, Op.load 65 (Operand.tmp 8), 65, "", #[], none⟩ 55 (.agg ca) HR.out.o0 rfl (by rw [hsz]; decide) (wanted_none rfl) (fun z hS => ob_0 bx bw br bc bp b o n cap pt hp wr er ca gv pv r _ z (fun _ => rfl) e8 hS) ?_
  intro a1 ha1 s1 f1 n1 k1
  replace hsz := s1.trans hsz
  replace hdf := f1.trans hdf
  replace e1 := (k1 1 (by decide)).trans e1
  replace e2 := (k1 2 (by decide)).trans e2
  replace e3 := (k1 3 (by decide)).trans e3
  replace e5 := (k1 5 (by decide)).trans e5
  replace e8 := (k1 8 (by decide)).trans e8
  have e55 := n1
  clear s1 f1 n1 k1
  refine wpTake_stepE ⟨some 56, Op.load 3 (Operand.tmp 3), 3, "", #[], none⟩ 56 (.int .i64 wr) HR.out.o1 rfl (by rw [hsz]; decide) (wanted_none rfl) (fun z hS => ob_1 bx bw br bc bp b o n cap pt hp wr er ca gv pv r _ z (fun _ => rfl) e3 hS) ?_
  intro a2 ha2 s1 f1 n1 k1
  replace hsz := s1.trans hsz
  replace hdf := f1.trans hdf
  replace e1 := (k1 1 (by decide)).trans e1
  replace e2 := (k1 2 (by decide)).trans e2
  replace e5 := (k1 5 (by decide)).trans e5
  replace e8 := (k1 8 (by decide)).trans e8
  replace e55 := (k1 55 (by decide)).trans e55
  have e56 := n1
  clear s1 f1 n1 k1
  refine wpTake_stepE ⟨some 57, Op.load 3 (Operand.tmp 5), 3, "", #[], none⟩ 57 (.int .i64 er) HR.out.o2 rfl (by rw [hsz]; decide) (wanted_none rfl) (fun z hS => ob_2 bx bw br bc bp b o n cap pt hp wr er ca gv pv r _ z (fun _ => rfl) e5 hS) ?_
  intro a3 ha3 s1 f1 n1 k1
  replace hsz := s1.trans hsz
  replace hdf := f1.trans hdf
  replace e1 := (k1 1 (by decide)).trans e1
  replace e2 := (k1 2 (by decide)).trans e2
  replace e8 := (k1 8 (by decide)).trans e8
  replace e55 := (k1 55 (by decide)).trans e55
  replace e56 := (k1 56 (by decide)).trans e56
  have e57 := n1
  clear s1 f1 n1 k1
  refine wpTake_nil ?_
  refine wpAnyH_one ⟨some 58, Op.call { callee := Callee.value (Operand.func 41), args := #[Operand.tmp 55, Operand.tmp 56, Operand.tmp 57], argTypes := #[65, 3, 3] }, 4, "", #[], none⟩ HR.out.r3 HR.out.o3 rfl (fun K' hK' => ?_)
  refine wp_enter (ob_3 bx bw br bc bp b o n cap pt hp wr er ca gv pv r _ _ (fun _ => rfl) rfl e55 e56 e57) (hc) ?_
  rintro e9 w9 ⟨rfl, hS9, hT⟩
  refine ⟨_, rfl, hK'.out _ _ (hS9) ?_⟩
  replace hHeld := hS9
  clear hK' K'
  show wpAnyH _ _ _ _ _ _ _ (Act.put a3 (some 58) (.bool false)) _
  obtain ⟨s1, f1, n1, k1⟩ := act_put a3 58 (.bool false) (show 58 < _ by rw [hsz]; decide)
  obtain ⟨a4, ha4⟩ : ∃ x, x = Act.put a3 (some 58) (.bool false) := ⟨_, rfl⟩
  rw [← ha4] at s1 f1 n1 k1 ⊢
  replace hsz := s1.trans hsz
  replace hdf := f1.trans hdf
  replace e1 := (k1 1 (by decide)).trans e1
  replace e2 := (k1 2 (by decide)).trans e2
  replace e8 := (k1 8 (by decide)).trans e8
  have e58 := n1
  clear s1 f1 n1 k1
  refine wpAnyH_takes HR.out.sel hQ hHeld [4, 5, 6, 7, 8, 9, 10, 11, 12] 3 _ _ HR.out.may1 ?_
  refine wpTake_stepE ⟨some 59, Op.move (Operand.tmp 58), 4, "", #[], none⟩ 59 (.bool false) HR.out.o4 rfl (by rw [hsz]; decide) (wanted_none rfl) (fun z hS => ob_4 bx bw br bc bp b o n cap pt hp wr er ca gv pv r _ z (fun _ => rfl) e58 hS) ?_
  intro a5 ha5 s1 f1 n1 k1
  replace hsz := s1.trans hsz
  replace hdf := f1.trans hdf
  replace e1 := (k1 1 (by decide)).trans e1
  replace e2 := (k1 2 (by decide)).trans e2
  replace e8 := (k1 8 (by decide)).trans e8
  have e59 := n1
  clear s1 f1 n1 k1
  refine wpTake_stepU ⟨some 60, Op.fieldAddr 65 (Operand.tmp 8) 5, 0, "", #[], some (4, true)⟩ 60 HR.out.o5 rfl (by rw [hsz]; decide) (wanted_not rfl (yielded_of HR.out.o4 rfl e59 (by rw [hsz]; decide))) ?_
  intro a6 ha6 s1 f1 n1 k1
  replace hsz := s1.trans hsz
  replace hdf := f1.trans hdf
  replace e1 := (k1 1 (by decide)).trans e1
  replace e2 := (k1 2 (by decide)).trans e2
  replace e59 := (k1 59 (by decide)).trans e59
  have e60 := n1
  clear s1 f1 n1 k1
  refine wpTake_stepU ⟨some 61, Op.load 27 (Operand.tmp 60), 27, "", #[], some (4, true)⟩ 61 HR.out.o6 rfl (by rw [hsz]; decide) (wanted_not rfl (yielded_of HR.out.o4 rfl e59 (by rw [hsz]; decide))) ?_
  intro a7 ha7 s1 f1 n1 k1
  replace hsz := s1.trans hsz
  replace hdf := f1.trans hdf
  replace e1 := (k1 1 (by decide)).trans e1
  replace e2 := (k1 2 (by decide)).trans e2
  replace e59 := (k1 59 (by decide)).trans e59
  have e61 := n1
  clear s1 f1 n1 k1
  refine wpTake_stepU ⟨some 62, Op.load 41 (Operand.tmp 1), 41, "", #[], some (4, true)⟩ 62 HR.out.o7 rfl (by rw [hsz]; decide) (wanted_not rfl (yielded_of HR.out.o4 rfl e59 (by rw [hsz]; decide))) ?_
  intro a8 ha8 s1 f1 n1 k1
  replace hsz := s1.trans hsz
  replace hdf := f1.trans hdf
  replace e2 := (k1 2 (by decide)).trans e2
  replace e59 := (k1 59 (by decide)).trans e59
  replace e61 := (k1 61 (by decide)).trans e61
  have e62 := n1
  clear s1 f1 n1 k1
  refine wpTake_stepU ⟨some 63, Op.load 3 (Operand.tmp 2), 3, "", #[], some (4, true)⟩ 63 HR.out.o8 rfl (by rw [hsz]; decide) (wanted_not rfl (yielded_of HR.out.o4 rfl e59 (by rw [hsz]; decide))) ?_
  intro a9 ha9 s1 f1 n1 k1
  replace hsz := s1.trans hsz
  replace hdf := f1.trans hdf
  replace e59 := (k1 59 (by decide)).trans e59
  replace e61 := (k1 61 (by decide)).trans e61
  replace e62 := (k1 62 (by decide)).trans e62
  have e63 := n1
  clear s1 f1 n1 k1
  refine wpTake_stepU ⟨some 64, Op.indexAddr 41 (Operand.tmp 62) (Operand.tmp 63), 0, "", #[], some (4, true)⟩ 64 HR.out.o9 rfl (by rw [hsz]; decide) (wanted_not rfl (yielded_of HR.out.o4 rfl e59 (by rw [hsz]; decide))) ?_
  intro a10 ha10 s1 f1 n1 k1
  replace hsz := s1.trans hsz
  replace hdf := f1.trans hdf
  replace e59 := (k1 59 (by decide)).trans e59
  replace e61 := (k1 61 (by decide)).trans e61
  have e64 := n1
  clear s1 f1 n1 k1
  refine wpTake_stepU ⟨some 65, Op.fieldAddr 65 (Operand.tmp 64) 0, 0, "", #[], some (4, true)⟩ 65 HR.out.o10 rfl (by rw [hsz]; decide) (wanted_not rfl (yielded_of HR.out.o4 rfl e59 (by rw [hsz]; decide))) ?_
  intro a11 ha11 s1 f1 n1 k1
  replace hsz := s1.trans hsz
  replace hdf := f1.trans hdf
  replace e59 := (k1 59 (by decide)).trans e59
  replace e61 := (k1 61 (by decide)).trans e61
  have e65 := n1
  clear s1 f1 n1 k1
  refine wpTake_stepU ⟨some 66, Op.fieldAddr 29 (Operand.tmp 65) 4, 0, "", #[], some (4, true)⟩ 66 HR.out.o11 rfl (by rw [hsz]; decide) (wanted_not rfl (yielded_of HR.out.o4 rfl e59 (by rw [hsz]; decide))) ?_
  intro a12 ha12 s1 f1 n1 k1
  replace hsz := s1.trans hsz
  replace hdf := f1.trans hdf
  replace e59 := (k1 59 (by decide)).trans e59
  replace e61 := (k1 61 (by decide)).trans e61
  have e66 := n1
  clear s1 f1 n1 k1
  refine wpTake_stepU ⟨some 67, Op.load 27 (Operand.tmp 66), 27, "", #[], some (4, true)⟩ 67 HR.out.o12 rfl (by rw [hsz]; decide) (wanted_not rfl (yielded_of HR.out.o4 rfl e59 (by rw [hsz]; decide))) ?_
  intro a13 ha13 s1 f1 n1 k1
  replace hsz := s1.trans hsz
  replace hdf := f1.trans hdf
  replace e59 := (k1 59 (by decide)).trans e59
  replace e61 := (k1 61 (by decide)).trans e61
  have e67 := n1
  clear s1 f1 n1 k1
  refine wpTake_nil ?_
  refine wpAnyH_oneU ⟨some 68, Op.call { callee := Callee.value (Operand.func 26), args := #[Operand.tmp 61, Operand.tmp 67], argTypes := #[27, 27] }, 4, "", #[], some (4, true)⟩ 68 HR.out.r13 HR.out.o13 rfl (wanted_not rfl (yielded_of HR.out.o4 rfl e59 (by rw [hsz]; decide))) hHeld ?_
  obtain ⟨s1, f1, n1, k1⟩ := act_put a13 68 undef (show 68 < _ by rw [hsz]; decide)
  obtain ⟨a14, ha14⟩ : ∃ x, x = Act.put a13 (some 68) undef := ⟨_, rfl⟩
  rw [← ha14] at s1 f1 n1 k1 ⊢
  replace hsz := s1.trans hsz
  replace hdf := f1.trans hdf
  replace e59 := (k1 59 (by decide)).trans e59
  have e68 := n1
  clear s1 f1 n1 k1
  refine wpAnyH_takes HR.out.sel hQ hHeld [14, 15] 0 _ _ HR.out.may2 ?_
  refine wpTake_stepE ⟨some 69, Op.pick (Operand.tmp 59) (Operand.tmp 68) (Operand.const (Value.bool false)), 4, "", #[], none⟩ 69 (.bool false) HR.out.o14 rfl (by rw [hsz]; decide) (wanted_none rfl) (fun z hS => ob_14 bx bw br bc bp b o n cap pt hp wr er ca gv pv r _ z (fun _ => rfl) e59 e68 hS) ?_
  intro a15 ha15 s1 f1 n1 k1
  replace hsz := s1.trans hsz
  replace hdf := f1.trans hdf
  have e69 := n1
  clear s1 f1 n1 k1
  refine wpTake_stepE ⟨some 7, Op.assign (Operand.tmp 69), 4, "", #[], none⟩ 7 (.bool false) HR.out.o15 rfl (by rw [hsz]; decide) (wanted_none rfl) (fun z hS => ob_15 bx bw br bc bp b o n cap pt hp wr er ca gv pv r _ z (fun _ => rfl) e69 hS) ?_
  intro a16 ha16 s1 f1 n1 k1
  replace hsz := s1.trans hsz
  replace hdf := f1.trans hdf
  clear s1 f1 n1 k1
  refine wpTake_nil ?_
  refine wpAnyH_done HR.out.fin ?_ _
  rw [ha16, ha15, ha14, ha13, ha12, ha11, ha10, ha9, ha8, ha7, ha6, ha5, ha4, ha3, ha2, ha1]
  exact hK _ hT
-- R: ⟨by kernel_rfl, by kernel_rfl, by kernel_rfl, by kernel_rfl, by kernel_rfl, by kernel_rfl, by kernel_rfl, by kernel_rfl, by kernel_rfl, by kernel_rfl, by kernel_rfl, by kernel_rfl, by kernel_rfl, by kernel_rfl, by kernel_rfl, by kernel_rfl, by kernel_rfl, by kernel_rfl, by kernel_rfl, by kernel_rfl, by kernel_rfl, by kernel_rfl, by kernel_rfl, by kernel_rfl⟩

end Go.Proofs.Ytbbgplnenbkfeaa
