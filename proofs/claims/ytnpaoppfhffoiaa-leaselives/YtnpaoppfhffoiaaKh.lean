/- The document's list of shards that wait: Retire of a new one (the region is laid by scripts/mkkh.py). -/
import Derived.Test.YtnpaoppfhffoiaaKg
import Derived.Test.YtnpaoppfhffoiaaTh
import Derived.Test.YtnpaoppfhffoiaaJa
import Derived.Test.YtnpaoppfhffoiaaDw
namespace Go.Proofs.Ytnpaoppfhffoiaa
set_option linter.unusedVariables false
set_option linter.unusedSimpArgs false
open Go.RowKit Go.Deep Go.Maps Go.Shelf Go.Lib Go.Sort

theorem xr_ld (t : Nat) (v : Value) (ev : Operand → Value) (z : World) (e29 : ev (.tmp 29) = .pointer (some ⟨t, 0, none⟩)) (c : z.cell? ⟨t, 0, none⟩ = some v) : (execOp ev ⟨some 30, Op.load 26 (Operand.tmp 29), 26, "", #[], none⟩).run Try.prog z = .ok (.value v) z := by go_simp
theorem xr_bs (pa pb tt : Int) (ev : Operand → Value) (z : World) (e38 : ev (.tmp 38) = .agg #[.int .i64 pa, .int .i64 pb, .int .i64 tt]) : (execOp ev ⟨some 39, Op.buildSlice 26 1 #[(0, Operand.tmp 38)], 26, "", #[], none⟩).run Try.prog z = .ok (.value (.slice (some ⟨z.heap.size, 0, none⟩) 1 1)) (z.alloc (.cells #[.int .i64 pa, .int .i64 pb, .int .i64 tt] 67)) := by go_simp
theorem xr_ap (v x v2 : Value) (ev : Operand → Value) (z z2 : World) (e30 : ev (.tmp 30) = v) (e39 : ev (.tmp 39) = x) (hr : (Builtin.append_ #[26, 26] 26 #[v, x]).run Try.prog z = .ok v2 z2) : (execOp ev ⟨some 40, Op.call { callee := Callee.builtin Builtin.append, args := #[Operand.tmp 30, Operand.tmp 39], argTypes := #[26, 26] }, 26, "", #[], none⟩).run Try.prog z = .ok (.value v2) z2 := by
  unfold execOp
  simp only [resolve, invoke, builtin, Sem.run_bind, Sem.run_pure, Result.andThen_ok, List.map_toArray, List.map_cons, List.map_nil, e30, e39, hr]
theorem xr_st (t g n cap : Nat) (v : Value) (ev : Operand → Value) (z : World) (e42 : ev (.tmp 42) = .pointer (some ⟨t, 0, none⟩)) (e40 : ev (.tmp 40) = .slice (some ⟨g, 0, none⟩) (n + 1) cap) (hc : z.cell? ⟨t, 0, none⟩ = some v) (hf : z.frozen? ⟨t, 0, none⟩ = false) : (execOp ev ⟨none, Op.store 26 (Operand.tmp 42) (Operand.tmp 40), 0, "", #[], none⟩).run Try.prog z = .ok .skip (z.setCell ⟨t, 0, none⟩ (.slice (some ⟨g, 0, none⟩) (n + 1) cap)) := by go_simp
/-- the block b holds cells of type e -/
def tyB (w : World) (b : Nat) (e : TypeId) : Prop := ∃ cs, w.heap[b]? = some (.cells cs e)
theorem tyB_own {w : World} {base : Nat} {e : TypeId} {size : Nat} {v : Value} {n : Nat} {xs : List Value} (h : w.ownsRow base e size v n xs) {g : Nat} (hg : v.ownBlock = some g) : tyB w g e := by
  rcases h.2 with ⟨h1, h2⟩ | ⟨g', cap, cur, h1, _, h3, _⟩
  · rw [h1] at hg
    cases hg
  · rw [h1] at hg
    have : g' = g := Option.some.inj hg
    subst this
    exact ⟨cur, h3⟩
theorem waits_add83 (now : Int) : wrap64 (waits now + 83) = waits now + 83 := by unfold wrap64 waits; omega
theorem xr_0 (t q : Nat) (v v2 : Value) (pa pb now : Int) (w1 w2 : World) (g cap n : Nat) (ev : Operand → Value) (z : World) (ec : ∀ c, ev (.const c) = c) (e0 : ev (.tmp 0) = .pointer (some ⟨t, 0, none⟩)) (hS : True) : (execOp ev ⟨some 26, Op.move (Operand.tmp 0), 25, "", #[], none⟩).run Try.prog z = .ok (.value (.pointer (some ⟨t, 0, none⟩))) z := by
  obtain _ := hS
  go_simp
theorem xr_1 (t q : Nat) (v v2 : Value) (pa pb now : Int) (w1 w2 : World) (g cap n : Nat) (ev : Operand → Value) (z : World) (ec : ∀ c, ev (.const c) = c) (e0 : ev (.tmp 0) = .pointer (some ⟨t, 0, none⟩)) (hS : True) : (execOp ev ⟨some 27, Op.move (Operand.tmp 0), 25, "", #[], none⟩).run Try.prog z = .ok (.value (.pointer (some ⟨t, 0, none⟩))) z := by
  obtain _ := hS
  go_simp
theorem xr_2 (t q : Nat) (v v2 : Value) (pa pb now : Int) (w1 w2 : World) (g cap n : Nat) (ev : Operand → Value) (z : World) (ec : ∀ c, ev (.const c) = c) (e27 : ev (.tmp 27) = .pointer (some ⟨t, 0, none⟩)) (hS : True) : (execOp ev ⟨some 28, Op.nilCheck (Operand.tmp 27), 0, "", #[], none⟩).run Try.prog z = .ok (.value (.pointer (some ⟨t, 0, none⟩))) z := by
  obtain _ := hS
  go_simp
theorem xr_3 (t q : Nat) (v v2 : Value) (pa pb now : Int) (w1 w2 : World) (g cap n : Nat) (ev : Operand → Value) (z : World) (ec : ∀ c, ev (.const c) = c) (e28 : ev (.tmp 28) = .pointer (some ⟨t, 0, none⟩)) (hS : True) : (execOp ev ⟨some 29, Op.fieldAddr 28 (Operand.tmp 28) 0, 0, "", #[], none⟩).run Try.prog z = .ok (.value (.pointer (some ⟨t, 0, none⟩))) z := by
  obtain _ := hS
  go_simp
theorem xr_5 (t q : Nat) (v v2 : Value) (pa pb now : Int) (w1 w2 : World) (g cap n : Nat) (ev : Operand → Value) (z : World) (ec : ∀ c, ev (.const c) = c) (e1 : ev (.tmp 1) = .int .i64 pa) (hS : True) : (execOp ev ⟨some 31, Op.move (Operand.tmp 1), 3, "", #[], none⟩).run Try.prog z = .ok (.value (.int .i64 pa)) z := by
  obtain _ := hS
  go_simp
theorem xr_6 (t q : Nat) (v v2 : Value) (pa pb now : Int) (w1 w2 : World) (g cap n : Nat) (ev : Operand → Value) (z : World) (ec : ∀ c, ev (.const c) = c) (e2 : ev (.tmp 2) = .int .i64 pb) (hS : True) : (execOp ev ⟨some 32, Op.move (Operand.tmp 2), 3, "", #[], none⟩).run Try.prog z = .ok (.value (.int .i64 pb)) z := by
  obtain _ := hS
  go_simp
theorem xr_7 (t q : Nat) (v v2 : Value) (pa pb now : Int) (w1 w2 : World) (g cap n : Nat) (ev : Operand → Value) (z : World) (ec : ∀ c, ev (.const c) = c) (e31 : ev (.tmp 31) = .int .i64 pa) (e32 : ev (.tmp 32) = .int .i64 pb) (hS : True) : (execOp ev ⟨some 33, Op.build 39 #[(0, Operand.tmp 31), (1, Operand.tmp 32)], 39, "", #[], none⟩).run Try.prog z = .ok (.value (.agg #[.int .i64 pa, .int .i64 pb])) z := by
  obtain _ := hS
  go_simp
theorem xr_8 (t q : Nat) (v v2 : Value) (pa pb now : Int) (w1 w2 : World) (g cap n : Nat) (ev : Operand → Value) (z : World) (ec : ∀ c, ev (.const c) = c) (e3 : ev (.tmp 3) = .int .i64 now) (hS : True) : (execOp ev ⟨some 34, Op.move (Operand.tmp 3), 3, "", #[], none⟩).run Try.prog z = .ok (.value (.int .i64 now)) z := by
  obtain _ := hS
  go_simp
theorem xr_9 (t q : Nat) (v v2 : Value) (pa pb now : Int) (w1 w2 : World) (g cap n : Nat) (ev : Operand → Value) (z : World) (ec : ∀ c, ev (.const c) = c) (ef : ev (.func 30) = .func (.func 30) #[] #[]) (e34 : ev (.tmp 34) = .int .i64 now) : (execOp ev ⟨some 35, Op.call { callee := Callee.value (Operand.func 30), args := #[Operand.tmp 34], argTypes := #[3] }, 3, "", #[], none⟩).run Try.prog z = .ok (.enter 30 #[.int .i64 now]) z :=
  enter_run _ ef (by simp only [List.map_toArray, List.map_cons, List.map_nil, ec, e34]) (fun _ => by rfl)
theorem xr_10 (t q : Nat) (v v2 : Value) (pa pb now : Int) (w1 w2 : World) (g cap n : Nat) (ev : Operand → Value) (z : World) (ec : ∀ c, ev (.const c) = c) (ef : ev (.func 31) = .func (.func 31) #[] #[])  : (execOp ev ⟨some 36, Op.call { callee := Callee.value (Operand.func 31), args := #[Operand.const (Value.int IntKind.i64 40)], argTypes := #[3] }, 3, "", #[], none⟩).run Try.prog z = .ok (.enter 31 #[.int .i64 40]) z :=
  enter_run _ ef (by simp only [List.map_toArray, List.map_cons, List.map_nil, ec]) (fun _ => by rfl)
theorem xr_11 (t q : Nat) (v v2 : Value) (pa pb now : Int) (w1 w2 : World) (g cap n : Nat) (ev : Operand → Value) (z : World) (ec : ∀ c, ev (.const c) = c) (e35 : ev (.tmp 35) = .int .i64 (waits now)) (e36 : ev (.tmp 36) = .int .i64 83) (hS : True) : (execOp ev ⟨some 37, Op.binOp BinOp.add 3 (Operand.tmp 35) (Operand.tmp 36) 3, 3, "", #[], none⟩).run Try.prog z = .ok (.value (.int .i64 (waits now + 83))) z := by
  have hw := waits_add83 now
  go_simp
  rw [IntKind.wrap_i64]
  unfold wrap64 at hw
  exact hw
theorem xr_12 (t q : Nat) (v v2 : Value) (pa pb now : Int) (w1 w2 : World) (g cap n : Nat) (ev : Operand → Value) (z : World) (ec : ∀ c, ev (.const c) = c) (e33 : ev (.tmp 33) = .agg #[.int .i64 pa, .int .i64 pb]) (e37 : ev (.tmp 37) = .int .i64 (waits now + 83)) (hS : True) : (execOp ev ⟨some 38, Op.build 67 #[(0, Operand.tmp 33), (1, Operand.tmp 37)], 67, "", #[], none⟩).run Try.prog z = .ok (.value (.agg #[.int .i64 pa, .int .i64 pb, .int .i64 (waits now + 83)])) z := by
  obtain _ := hS
  go_simp
theorem xr_15 (t q : Nat) (v v2 : Value) (pa pb now : Int) (w1 w2 : World) (g cap n : Nat) (ev : Operand → Value) (z : World) (ec : ∀ c, ev (.const c) = c) (e26 : ev (.tmp 26) = .pointer (some ⟨t, 0, none⟩)) (hS : True) : (execOp ev ⟨some 41, Op.nilCheck (Operand.tmp 26), 0, "", #[], none⟩).run Try.prog z = .ok (.value (.pointer (some ⟨t, 0, none⟩))) z := by
  obtain _ := hS
  go_simp
theorem xr_16 (t q : Nat) (v v2 : Value) (pa pb now : Int) (w1 w2 : World) (g cap n : Nat) (ev : Operand → Value) (z : World) (ec : ∀ c, ev (.const c) = c) (e41 : ev (.tmp 41) = .pointer (some ⟨t, 0, none⟩)) (hS : True) : (execOp ev ⟨some 42, Op.fieldAddr 28 (Operand.tmp 41) 0, 0, "", #[], none⟩).run Try.prog z = .ok (.value (.pointer (some ⟨t, 0, none⟩))) z := by
  obtain _ := hS
  go_simp
structure xrR (ops : Array Oper) : Prop where
  size : ops.size = 18
  sel : Region.noSelect ops = true
  o0 : (ops[0]?).map bare = some ⟨some 26, Op.move (Operand.tmp 0), 25, "", #[], none⟩
  o1 : (ops[1]?).map bare = some ⟨some 27, Op.move (Operand.tmp 0), 25, "", #[], none⟩
  o2 : (ops[2]?).map bare = some ⟨some 28, Op.nilCheck (Operand.tmp 27), 0, "", #[], none⟩
  o3 : (ops[3]?).map bare = some ⟨some 29, Op.fieldAddr 28 (Operand.tmp 28) 0, 0, "", #[], none⟩
  o4 : (ops[4]?).map bare = some ⟨some 30, Op.load 26 (Operand.tmp 29), 26, "", #[], none⟩
  o5 : (ops[5]?).map bare = some ⟨some 31, Op.move (Operand.tmp 1), 3, "", #[], none⟩
  o6 : (ops[6]?).map bare = some ⟨some 32, Op.move (Operand.tmp 2), 3, "", #[], none⟩
  o7 : (ops[7]?).map bare = some ⟨some 33, Op.build 39 #[(0, Operand.tmp 31), (1, Operand.tmp 32)], 39, "", #[], none⟩
  o8 : (ops[8]?).map bare = some ⟨some 34, Op.move (Operand.tmp 3), 3, "", #[], none⟩
  o9 : (ops[9]?).map bare = some ⟨some 35, Op.call { callee := Callee.value (Operand.func 30), args := #[Operand.tmp 34], argTypes := #[3] }, 3, "", #[], none⟩
  o10 : (ops[10]?).map bare = some ⟨some 36, Op.call { callee := Callee.value (Operand.func 31), args := #[Operand.const (Value.int IntKind.i64 40)], argTypes := #[3] }, 3, "", #[], none⟩
  o11 : (ops[11]?).map bare = some ⟨some 37, Op.binOp BinOp.add 3 (Operand.tmp 35) (Operand.tmp 36) 3, 3, "", #[], none⟩
  o12 : (ops[12]?).map bare = some ⟨some 38, Op.build 67 #[(0, Operand.tmp 33), (1, Operand.tmp 37)], 67, "", #[], none⟩
  o13 : (ops[13]?).map bare = some ⟨some 39, Op.buildSlice 26 1 #[(0, Operand.tmp 38)], 26, "", #[], none⟩
  o14 : (ops[14]?).map bare = some ⟨some 40, Op.call { callee := Callee.builtin Builtin.append, args := #[Operand.tmp 30, Operand.tmp 39], argTypes := #[26, 26] }, 26, "", #[], none⟩
  o15 : (ops[15]?).map bare = some ⟨some 41, Op.nilCheck (Operand.tmp 26), 0, "", #[], none⟩
  o16 : (ops[16]?).map bare = some ⟨some 42, Op.fieldAddr 28 (Operand.tmp 41) 0, 0, "", #[], none⟩
  o17 : (ops[17]?).map bare = some ⟨none, Op.store 26 (Operand.tmp 42) (Operand.tmp 40), 0, "", #[], none⟩
  f1 : takeB .any ops [0, 1, 2, 3, 5, 6, 7, 8] (Array.replicate 18 false) = true
  f2 : Region.ready .any ops (mark [0, 1, 2, 3, 5, 6, 7, 8] (Array.replicate 18 false)) = [4, 9]
  f3 : Region.ready .any ops ((mark [0, 1, 2, 3, 5, 6, 7, 8] (Array.replicate 18 false)).setIfInBounds 4 true) = [9]
  f4 : Region.ready .any ops (((mark [0, 1, 2, 3, 5, 6, 7, 8] (Array.replicate 18 false)).setIfInBounds 4 true).setIfInBounds 9 true) = [10]
  f5 : takeB .any ops [11, 12] ((((mark [0, 1, 2, 3, 5, 6, 7, 8] (Array.replicate 18 false)).setIfInBounds 4 true).setIfInBounds 9 true).setIfInBounds 10 true) = true
  f6 : Region.ready .any ops (mark [11, 12] ((((mark [0, 1, 2, 3, 5, 6, 7, 8] (Array.replicate 18 false)).setIfInBounds 4 true).setIfInBounds 9 true).setIfInBounds 10 true)) = [13]
  f7 : Region.ready .any ops ((mark [11, 12] ((((mark [0, 1, 2, 3, 5, 6, 7, 8] (Array.replicate 18 false)).setIfInBounds 4 true).setIfInBounds 9 true).setIfInBounds 10 true)).setIfInBounds 13 true) = [14]
  f8 : takeB .any ops [15, 16] (((mark [11, 12] ((((mark [0, 1, 2, 3, 5, 6, 7, 8] (Array.replicate 18 false)).setIfInBounds 4 true).setIfInBounds 9 true).setIfInBounds 10 true)).setIfInBounds 13 true).setIfInBounds 14 true) = true
  f9 : Region.ready .any ops (mark [15, 16] (((mark [11, 12] ((((mark [0, 1, 2, 3, 5, 6, 7, 8] (Array.replicate 18 false)).setIfInBounds 4 true).setIfInBounds 9 true).setIfInBounds 10 true)).setIfInBounds 13 true).setIfInBounds 14 true)) = [17]
  f10 : Region.ready .any ops ((mark [15, 16] (((mark [11, 12] ((((mark [0, 1, 2, 3, 5, 6, 7, 8] (Array.replicate 18 false)).setIfInBounds 4 true).setIfInBounds 9 true).setIfInBounds 10 true)).setIfInBounds 13 true).setIfInBounds 14 true)).setIfInBounds 17 true) = []
  f11 : Region.ready .any ops ((mark [0, 1, 2, 3, 5, 6, 7, 8] (Array.replicate 18 false)).setIfInBounds 9 true) = [4, 10]
  f12 : Region.ready .any ops (((mark [0, 1, 2, 3, 5, 6, 7, 8] (Array.replicate 18 false)).setIfInBounds 9 true).setIfInBounds 4 true) = [10]
  f13 : takeB .any ops [11, 12] ((((mark [0, 1, 2, 3, 5, 6, 7, 8] (Array.replicate 18 false)).setIfInBounds 9 true).setIfInBounds 4 true).setIfInBounds 10 true) = true
  f14 : Region.ready .any ops (mark [11, 12] ((((mark [0, 1, 2, 3, 5, 6, 7, 8] (Array.replicate 18 false)).setIfInBounds 9 true).setIfInBounds 4 true).setIfInBounds 10 true)) = [13]
  f15 : Region.ready .any ops ((mark [11, 12] ((((mark [0, 1, 2, 3, 5, 6, 7, 8] (Array.replicate 18 false)).setIfInBounds 9 true).setIfInBounds 4 true).setIfInBounds 10 true)).setIfInBounds 13 true) = [14]
  f16 : takeB .any ops [15, 16] (((mark [11, 12] ((((mark [0, 1, 2, 3, 5, 6, 7, 8] (Array.replicate 18 false)).setIfInBounds 9 true).setIfInBounds 4 true).setIfInBounds 10 true)).setIfInBounds 13 true).setIfInBounds 14 true) = true
  f17 : Region.ready .any ops (mark [15, 16] (((mark [11, 12] ((((mark [0, 1, 2, 3, 5, 6, 7, 8] (Array.replicate 18 false)).setIfInBounds 9 true).setIfInBounds 4 true).setIfInBounds 10 true)).setIfInBounds 13 true).setIfInBounds 14 true)) = [17]
  f18 : Region.ready .any ops ((mark [15, 16] (((mark [11, 12] ((((mark [0, 1, 2, 3, 5, 6, 7, 8] (Array.replicate 18 false)).setIfInBounds 9 true).setIfInBounds 4 true).setIfInBounds 10 true)).setIfInBounds 13 true).setIfInBounds 14 true)).setIfInBounds 17 true) = []
  f19 : takeB .any ops [11, 12] (((mark [0, 1, 2, 3, 5, 6, 7, 8] (Array.replicate 18 false)).setIfInBounds 9 true).setIfInBounds 10 true) = true
  f20 : Region.ready .any ops (mark [11, 12] (((mark [0, 1, 2, 3, 5, 6, 7, 8] (Array.replicate 18 false)).setIfInBounds 9 true).setIfInBounds 10 true)) = [4, 13]
  f21 : Region.ready .any ops ((mark [11, 12] (((mark [0, 1, 2, 3, 5, 6, 7, 8] (Array.replicate 18 false)).setIfInBounds 9 true).setIfInBounds 10 true)).setIfInBounds 4 true) = [13]
  f22 : Region.ready .any ops (((mark [11, 12] (((mark [0, 1, 2, 3, 5, 6, 7, 8] (Array.replicate 18 false)).setIfInBounds 9 true).setIfInBounds 10 true)).setIfInBounds 4 true).setIfInBounds 13 true) = [14]
  f23 : takeB .any ops [15, 16] ((((mark [11, 12] (((mark [0, 1, 2, 3, 5, 6, 7, 8] (Array.replicate 18 false)).setIfInBounds 9 true).setIfInBounds 10 true)).setIfInBounds 4 true).setIfInBounds 13 true).setIfInBounds 14 true) = true
  f24 : Region.ready .any ops (mark [15, 16] ((((mark [11, 12] (((mark [0, 1, 2, 3, 5, 6, 7, 8] (Array.replicate 18 false)).setIfInBounds 9 true).setIfInBounds 10 true)).setIfInBounds 4 true).setIfInBounds 13 true).setIfInBounds 14 true)) = [17]
  f25 : Region.ready .any ops ((mark [15, 16] ((((mark [11, 12] (((mark [0, 1, 2, 3, 5, 6, 7, 8] (Array.replicate 18 false)).setIfInBounds 9 true).setIfInBounds 10 true)).setIfInBounds 4 true).setIfInBounds 13 true).setIfInBounds 14 true)).setIfInBounds 17 true) = []
  f26 : Region.ready .any ops ((mark [11, 12] (((mark [0, 1, 2, 3, 5, 6, 7, 8] (Array.replicate 18 false)).setIfInBounds 9 true).setIfInBounds 10 true)).setIfInBounds 13 true) = [4]
  f27 : Region.ready .any ops (((mark [11, 12] (((mark [0, 1, 2, 3, 5, 6, 7, 8] (Array.replicate 18 false)).setIfInBounds 9 true).setIfInBounds 10 true)).setIfInBounds 13 true).setIfInBounds 4 true) = [14]
  f28 : takeB .any ops [15, 16] ((((mark [11, 12] (((mark [0, 1, 2, 3, 5, 6, 7, 8] (Array.replicate 18 false)).setIfInBounds 9 true).setIfInBounds 10 true)).setIfInBounds 13 true).setIfInBounds 4 true).setIfInBounds 14 true) = true
  f29 : Region.ready .any ops (mark [15, 16] ((((mark [11, 12] (((mark [0, 1, 2, 3, 5, 6, 7, 8] (Array.replicate 18 false)).setIfInBounds 9 true).setIfInBounds 10 true)).setIfInBounds 13 true).setIfInBounds 4 true).setIfInBounds 14 true)) = [17]
  f30 : Region.ready .any ops ((mark [15, 16] ((((mark [11, 12] (((mark [0, 1, 2, 3, 5, 6, 7, 8] (Array.replicate 18 false)).setIfInBounds 9 true).setIfInBounds 10 true)).setIfInBounds 13 true).setIfInBounds 4 true).setIfInBounds 14 true)).setIfInBounds 17 true) = []

set_option maxRecDepth 100000 in
set_option maxHeartbeats 3200000 in
theorem xr_region {ops : Array Oper} {id : Nat} {Q : Exit → Act → World → Prop} {a : Act} {y : World} (R : xrR ops) (t q : Nat) (v v2 : Value) (pa pb now : Int) (w1 w2 : World) (g cap n : Nat)
    (hQ : ∀ d v c a w, Q (.panic c) (a.put d v) w → Q (.panic c) a w) (hsz : a.tmps.size = 43) (e0 : a.eval (.tmp 0) = .pointer (some ⟨t, 0, none⟩)) (e1 : a.eval (.tmp 1) = .int .i64 pa) (e2 : a.eval (.tmp 2) = .int .i64 pb) (e3 : a.eval (.tmp 3) = .int .i64 now) (hC : y.drew.cell? ⟨t, 0, none⟩ = some v) (hC1 : w1.cell? ⟨t, 0, none⟩ = some v) (hw1 : w1 = y.drew.alloc (.cells #[.int .i64 pa, .int .i64 pb, .int .i64 (waits now + 83)] 67)) (hq : q = y.drew.heap.size) (hap : (Builtin.append_ #[26, 26] 26 #[v, .slice (some ⟨q, 0, none⟩) 1 1]).run Try.prog w1 = .ok (.slice (some ⟨g, 0, none⟩) (n + 1) cap) w2) (hc2 : w2.cell? ⟨t, 0, none⟩ = some v) (hf2 : w2.frozen? ⟨t, 0, none⟩ = false)
    (hK : ∀ a' : Act, a'.defers = a.defers → Q .normal a' (w2.setCell ⟨t, 0, none⟩ (.slice (some ⟨g, 0, none⟩) (n + 1) cap))) : (Code.region id ops true).wp Try.prog Q a y := by
  have HR : Hid (xrR ops) := R
  have hdf : a.defers = a.defers := rfl
  have hS0 : True := trivial
  have HC : Hid (y.drew.cell? ⟨t, 0, none⟩ = some v) := hC
  have HC1 : Hid (w1.cell? ⟨t, 0, none⟩ = some v) := hC1
  have e83 : 2 * waits 40 + 3 = 83 := by unfold waits; omega
  have HW0 := fun w => rwait_ok 40 w
  rw [e83] at HW0
  have HW : Hid (∀ w, Calls _ _ _ w _) := HW0
  have HBS : Hid (∀ ev : Operand → Value, ev (.tmp 38) = .agg #[.int .i64 pa, .int .i64 pb, .int .i64 (waits now + 83)] → (execOp ev ⟨some 39, Op.buildSlice 26 1 #[(0, Operand.tmp 38)], 26, "", #[], none⟩).run Try.prog y.drew = .ok (.value (.slice (some ⟨q, 0, none⟩) 1 1)) w1) := fun ev e => by
    rw [hw1, hq]; exact xr_bs pa pb _ ev _ e
  clear HW0 e83 hC hC1 hw1 hq
  refine wp_region_held_drew (S := (fun z : World => True)) (by kernel_rfl) (hS0) (fun hHeld => ?_)
  rw [R.size]
  clear R
  refine wpAnyH_takes HR.out.sel hQ (hHeld) [0, 1, 2, 3, 5, 6, 7, 8] 10 _ _ HR.out.f1 ?_
  refine wpTake_stepE ⟨some 26, Op.move (Operand.tmp 0), 25, "", #[], none⟩ 26 (.pointer (some ⟨t, 0, none⟩)) HR.out.o0 rfl (by rw [hsz]; decide) (wanted_none rfl) (fun z hS => xr_0 t q v v2 pa pb now w1 w2 g cap n _ z (fun _ => rfl) e0 hS) ?_
  intro a1 ha1 s1 f1 n1 k1
  clear ha1
  replace hsz := s1.trans hsz
  replace hdf := f1.trans hdf
  replace e0 := (k1 0 (by decide)).trans e0
  replace e1 := (k1 1 (by decide)).trans e1
  replace e2 := (k1 2 (by decide)).trans e2
  replace e3 := (k1 3 (by decide)).trans e3
  have e26 := n1
  clear s1 f1 n1 k1
  refine wpTake_stepE ⟨some 27, Op.move (Operand.tmp 0), 25, "", #[], none⟩ 27 (.pointer (some ⟨t, 0, none⟩)) HR.out.o1 rfl (by rw [hsz]; decide) (wanted_none rfl) (fun z hS => xr_1 t q v v2 pa pb now w1 w2 g cap n _ z (fun _ => rfl) e0 hS) ?_
  intro a2 ha1 s1 f1 n1 k1
  clear ha1
  replace hsz := s1.trans hsz
  replace hdf := f1.trans hdf
  replace e1 := (k1 1 (by decide)).trans e1
  replace e2 := (k1 2 (by decide)).trans e2
  replace e3 := (k1 3 (by decide)).trans e3
  replace e26 := (k1 26 (by decide)).trans e26
  have e27 := n1
  clear s1 f1 n1 k1
  refine wpTake_stepE ⟨some 28, Op.nilCheck (Operand.tmp 27), 0, "", #[], none⟩ 28 (.pointer (some ⟨t, 0, none⟩)) HR.out.o2 rfl (by rw [hsz]; decide) (wanted_none rfl) (fun z hS => xr_2 t q v v2 pa pb now w1 w2 g cap n _ z (fun _ => rfl) e27 hS) ?_
  intro a3 ha1 s1 f1 n1 k1
  clear ha1
  replace hsz := s1.trans hsz
  replace hdf := f1.trans hdf
  replace e1 := (k1 1 (by decide)).trans e1
  replace e2 := (k1 2 (by decide)).trans e2
  replace e3 := (k1 3 (by decide)).trans e3
  replace e26 := (k1 26 (by decide)).trans e26
  have e28 := n1
  clear s1 f1 n1 k1
  refine wpTake_stepE ⟨some 29, Op.fieldAddr 28 (Operand.tmp 28) 0, 0, "", #[], none⟩ 29 (.pointer (some ⟨t, 0, none⟩)) HR.out.o3 rfl (by rw [hsz]; decide) (wanted_none rfl) (fun z hS => xr_3 t q v v2 pa pb now w1 w2 g cap n _ z (fun _ => rfl) e28 hS) ?_
  intro a4 ha1 s1 f1 n1 k1
  clear ha1
  replace hsz := s1.trans hsz
  replace hdf := f1.trans hdf
  replace e1 := (k1 1 (by decide)).trans e1
  replace e2 := (k1 2 (by decide)).trans e2
  replace e3 := (k1 3 (by decide)).trans e3
  replace e26 := (k1 26 (by decide)).trans e26
  have e29 := n1
  clear s1 f1 n1 k1
  refine wpTake_stepE ⟨some 31, Op.move (Operand.tmp 1), 3, "", #[], none⟩ 31 (.int .i64 pa) HR.out.o5 rfl (by rw [hsz]; decide) (wanted_none rfl) (fun z hS => xr_5 t q v v2 pa pb now w1 w2 g cap n _ z (fun _ => rfl) e1 hS) ?_
  intro a5 ha1 s1 f1 n1 k1
  clear ha1
  replace hsz := s1.trans hsz
  replace hdf := f1.trans hdf
  replace e2 := (k1 2 (by decide)).trans e2
  replace e3 := (k1 3 (by decide)).trans e3
  replace e26 := (k1 26 (by decide)).trans e26
  replace e29 := (k1 29 (by decide)).trans e29
  have e31 := n1
  clear s1 f1 n1 k1
  refine wpTake_stepE ⟨some 32, Op.move (Operand.tmp 2), 3, "", #[], none⟩ 32 (.int .i64 pb) HR.out.o6 rfl (by rw [hsz]; decide) (wanted_none rfl) (fun z hS => xr_6 t q v v2 pa pb now w1 w2 g cap n _ z (fun _ => rfl) e2 hS) ?_
  intro a6 ha1 s1 f1 n1 k1
  clear ha1
  replace hsz := s1.trans hsz
  replace hdf := f1.trans hdf
  replace e3 := (k1 3 (by decide)).trans e3
  replace e26 := (k1 26 (by decide)).trans e26
  replace e29 := (k1 29 (by decide)).trans e29
  replace e31 := (k1 31 (by decide)).trans e31
  have e32 := n1
  clear s1 f1 n1 k1
  refine wpTake_stepE ⟨some 33, Op.build 39 #[(0, Operand.tmp 31), (1, Operand.tmp 32)], 39, "", #[], none⟩ 33 (.agg #[.int .i64 pa, .int .i64 pb]) HR.out.o7 rfl (by rw [hsz]; decide) (wanted_none rfl) (fun z hS => xr_7 t q v v2 pa pb now w1 w2 g cap n _ z (fun _ => rfl) e31 e32 hS) ?_
  intro a7 ha1 s1 f1 n1 k1
  clear ha1
  replace hsz := s1.trans hsz
  replace hdf := f1.trans hdf
  replace e3 := (k1 3 (by decide)).trans e3
  replace e26 := (k1 26 (by decide)).trans e26
  replace e29 := (k1 29 (by decide)).trans e29
  have e33 := n1
  clear s1 f1 n1 k1
  refine wpTake_stepE ⟨some 34, Op.move (Operand.tmp 3), 3, "", #[], none⟩ 34 (.int .i64 now) HR.out.o8 rfl (by rw [hsz]; decide) (wanted_none rfl) (fun z hS => xr_8 t q v v2 pa pb now w1 w2 g cap n _ z (fun _ => rfl) e3 hS) ?_
  intro a8 ha1 s1 f1 n1 k1
  clear ha1
  replace hsz := s1.trans hsz
  replace hdf := f1.trans hdf
  replace e26 := (k1 26 (by decide)).trans e26
  replace e29 := (k1 29 (by decide)).trans e29
  replace e33 := (k1 33 (by decide)).trans e33
  have e34 := n1
  clear s1 f1 n1 k1
  refine wpTake_nil ?_
  refine wpAnyH_two ⟨some 30, Op.load 26 (Operand.tmp 29), 26, "", #[], none⟩ ⟨some 35, Op.call { callee := Callee.value (Operand.func 30), args := #[Operand.tmp 34], argTypes := #[3] }, 3, "", #[], none⟩ HR.out.f2 HR.out.o4 HR.out.o9 rfl rfl (fun Ka hKa => ?_) (fun Ka hKa => ?_)
  · refine wp_value (xr_ld t v _ _ e29 HC.out) (hKa.out _ _ (trivial) ?_)
    clear hKa Ka
    show wpAnyH _ _ _ _ _ _ _ (Act.put a8 (some 30) (v)) _
    obtain ⟨s1, f1, n1, k1⟩ := act_put a8 30 (v) (show 30 < _ by rw [hsz]; decide)
    obtain ⟨a9, ha1⟩ : ∃ x, x = Act.put a8 (some 30) (v) := ⟨_, rfl⟩
    rw [← ha1] at s1 f1 n1 k1 ⊢
    clear ha1
    replace hsz := s1.trans hsz
    replace hdf := f1.trans hdf
    replace e26 := (k1 26 (by decide)).trans e26
    replace e33 := (k1 33 (by decide)).trans e33
    replace e34 := (k1 34 (by decide)).trans e34
    have e30 := n1
    clear s1 f1 n1 k1
    refine wpAnyH_one ⟨some 35, Op.call { callee := Callee.value (Operand.func 30), args := #[Operand.tmp 34], argTypes := #[3] }, 3, "", #[], none⟩ HR.out.f3 HR.out.o9 rfl (fun Ka hKa => ?_)
    refine wp_enter (xr_9 t q v v2 pa pb now w1 w2 g cap n _ _ (fun _ => rfl) rfl e34) (rtime_ok now _) ?_
    rintro e9 w9 ⟨rfl, hw9⟩
    subst hw9
    refine ⟨_, rfl, hKa.out _ _ (trivial) ?_⟩
    clear hKa Ka
    show wpAnyH _ _ _ _ _ _ _ (Act.put a9 (some 35) (.int .i64 (waits now))) _
    obtain ⟨s1, f1, n1, k1⟩ := act_put a9 35 (.int .i64 (waits now)) (show 35 < _ by rw [hsz]; decide)
    obtain ⟨a10, ha1⟩ : ∃ x, x = Act.put a9 (some 35) (.int .i64 (waits now)) := ⟨_, rfl⟩
    rw [← ha1] at s1 f1 n1 k1 ⊢
    clear ha1
    replace hsz := s1.trans hsz
    replace hdf := f1.trans hdf
    replace e26 := (k1 26 (by decide)).trans e26
    replace e33 := (k1 33 (by decide)).trans e33
    replace e30 := (k1 30 (by decide)).trans e30
    have e35 := n1
    clear s1 f1 n1 k1
    refine wpAnyH_one ⟨some 36, Op.call { callee := Callee.value (Operand.func 31), args := #[Operand.const (Value.int IntKind.i64 40)], argTypes := #[3] }, 3, "", #[], none⟩ HR.out.f4 HR.out.o10 rfl (fun Ka hKa => ?_)
    refine wp_enter (xr_10 t q v v2 pa pb now w1 w2 g cap n _ _ (fun _ => rfl) rfl ) (HW.out _) ?_
    rintro e9 w9 ⟨rfl, hw9⟩
    subst hw9
    refine ⟨_, rfl, hKa.out _ _ (trivial) ?_⟩
    clear hKa Ka
    show wpAnyH _ _ _ _ _ _ _ (Act.put a10 (some 36) (.int .i64 83)) _
    obtain ⟨s1, f1, n1, k1⟩ := act_put a10 36 (.int .i64 83) (show 36 < _ by rw [hsz]; decide)
    obtain ⟨a11, ha1⟩ : ∃ x, x = Act.put a10 (some 36) (.int .i64 83) := ⟨_, rfl⟩
    rw [← ha1] at s1 f1 n1 k1 ⊢
    clear ha1
    replace hsz := s1.trans hsz
    replace hdf := f1.trans hdf
    replace e26 := (k1 26 (by decide)).trans e26
    replace e33 := (k1 33 (by decide)).trans e33
    replace e30 := (k1 30 (by decide)).trans e30
    replace e35 := (k1 35 (by decide)).trans e35
    have e36 := n1
    clear s1 f1 n1 k1
    refine wpAnyH_takes HR.out.sel hQ (trivial) [11, 12] 5 _ _ HR.out.f5 ?_
    refine wpTake_stepE ⟨some 37, Op.binOp BinOp.add 3 (Operand.tmp 35) (Operand.tmp 36) 3, 3, "", #[], none⟩ 37 (.int .i64 (waits now + 83)) HR.out.o11 rfl (by rw [hsz]; decide) (wanted_none rfl) (fun z hS => xr_11 t q v v2 pa pb now w1 w2 g cap n _ z (fun _ => rfl) e35 e36 hS) ?_
    intro a12 ha1 s1 f1 n1 k1
    clear ha1
    replace hsz := s1.trans hsz
    replace hdf := f1.trans hdf
    replace e26 := (k1 26 (by decide)).trans e26
    replace e33 := (k1 33 (by decide)).trans e33
    replace e30 := (k1 30 (by decide)).trans e30
    have e37 := n1
    clear s1 f1 n1 k1
    refine wpTake_stepE ⟨some 38, Op.build 67 #[(0, Operand.tmp 33), (1, Operand.tmp 37)], 67, "", #[], none⟩ 38 (.agg #[.int .i64 pa, .int .i64 pb, .int .i64 (waits now + 83)]) HR.out.o12 rfl (by rw [hsz]; decide) (wanted_none rfl) (fun z hS => xr_12 t q v v2 pa pb now w1 w2 g cap n _ z (fun _ => rfl) e33 e37 hS) ?_
    intro a13 ha1 s1 f1 n1 k1
    clear ha1
    replace hsz := s1.trans hsz
    replace hdf := f1.trans hdf
    replace e26 := (k1 26 (by decide)).trans e26
    replace e30 := (k1 30 (by decide)).trans e30
    have e38 := n1
    clear s1 f1 n1 k1
    refine wpTake_nil ?_
    refine wpAnyH_run ⟨some 39, Op.buildSlice 26 1 #[(0, Operand.tmp 38)], 26, "", #[], none⟩ _ (.slice (some ⟨q, 0, none⟩) 1 1) _ HR.out.f6 HR.out.o13 rfl rfl (HBS.out _ e38) (trivial) ?_
    obtain ⟨s1, f1, n1, k1⟩ := act_put a13 39 (.slice (some ⟨q, 0, none⟩) 1 1) (show 39 < _ by rw [hsz]; decide)
    obtain ⟨a14, ha1⟩ : ∃ x, x = Act.put a13 (some 39) (.slice (some ⟨q, 0, none⟩) 1 1) := ⟨_, rfl⟩
    rw [← ha1] at s1 f1 n1 k1 ⊢
    clear ha1
    replace hsz := s1.trans hsz
    replace hdf := f1.trans hdf
    replace e26 := (k1 26 (by decide)).trans e26
    replace e30 := (k1 30 (by decide)).trans e30
    have e39 := n1
    clear s1 f1 n1 k1
    refine wpAnyH_run ⟨some 40, Op.call { callee := Callee.builtin Builtin.append, args := #[Operand.tmp 30, Operand.tmp 39], argTypes := #[26, 26] }, 26, "", #[], none⟩ _ (.slice (some ⟨g, 0, none⟩) (n + 1) cap) _ HR.out.f7 HR.out.o14 rfl rfl (xr_ap _ _ _ _ _ _ e30 e39 hap) (trivial) ?_
    obtain ⟨s1, f1, n1, k1⟩ := act_put a14 40 (.slice (some ⟨g, 0, none⟩) (n + 1) cap) (show 40 < _ by rw [hsz]; decide)
    obtain ⟨a15, ha1⟩ : ∃ x, x = Act.put a14 (some 40) (.slice (some ⟨g, 0, none⟩) (n + 1) cap) := ⟨_, rfl⟩
    rw [← ha1] at s1 f1 n1 k1 ⊢
    clear ha1
    replace hsz := s1.trans hsz
    replace hdf := f1.trans hdf
    replace e26 := (k1 26 (by decide)).trans e26
    have e40 := n1
    clear s1 f1 n1 k1
    refine wpAnyH_takes HR.out.sel hQ (trivial) [15, 16] 1 _ _ HR.out.f8 ?_
    refine wpTake_stepE ⟨some 41, Op.nilCheck (Operand.tmp 26), 0, "", #[], none⟩ 41 (.pointer (some ⟨t, 0, none⟩)) HR.out.o15 rfl (by rw [hsz]; decide) (wanted_none rfl) (fun z hS => xr_15 t q v v2 pa pb now w1 w2 g cap n _ z (fun _ => rfl) e26 hS) ?_
    intro a16 ha1 s1 f1 n1 k1
    clear ha1
    replace hsz := s1.trans hsz
    replace hdf := f1.trans hdf
    replace e40 := (k1 40 (by decide)).trans e40
    have e41 := n1
    clear s1 f1 n1 k1
    refine wpTake_stepE ⟨some 42, Op.fieldAddr 28 (Operand.tmp 41) 0, 0, "", #[], none⟩ 42 (.pointer (some ⟨t, 0, none⟩)) HR.out.o16 rfl (by rw [hsz]; decide) (wanted_none rfl) (fun z hS => xr_16 t q v v2 pa pb now w1 w2 g cap n _ z (fun _ => rfl) e41 hS) ?_
    intro a17 ha1 s1 f1 n1 k1
    clear ha1
    replace hsz := s1.trans hsz
    replace hdf := f1.trans hdf
    replace e40 := (k1 40 (by decide)).trans e40
    have e42 := n1
    clear s1 f1 n1 k1
    refine wpTake_nil ?_
    refine wpAnyH_skip ⟨none, Op.store 26 (Operand.tmp 42) (Operand.tmp 40), 0, "", #[], none⟩ _ HR.out.f9 HR.out.o17 rfl rfl (xr_st t g n cap v _ _ e42 e40 hc2 hf2) (trivial) ?_
    refine wpAnyH_done HR.out.f10 ?_ _
    exact hK _ hdf
  · refine wp_enter (xr_9 t q v v2 pa pb now w1 w2 g cap n _ _ (fun _ => rfl) rfl e34) (rtime_ok now _) ?_
    rintro e9 w9 ⟨rfl, hw9⟩
    subst hw9
    refine ⟨_, rfl, hKa.out _ _ (trivial) ?_⟩
    clear hKa Ka
    show wpAnyH _ _ _ _ _ _ _ (Act.put a8 (some 35) (.int .i64 (waits now))) _
    obtain ⟨s1, f1, n1, k1⟩ := act_put a8 35 (.int .i64 (waits now)) (show 35 < _ by rw [hsz]; decide)
    obtain ⟨a9, ha1⟩ : ∃ x, x = Act.put a8 (some 35) (.int .i64 (waits now)) := ⟨_, rfl⟩
    rw [← ha1] at s1 f1 n1 k1 ⊢
    clear ha1
    replace hsz := s1.trans hsz
    replace hdf := f1.trans hdf
    replace e26 := (k1 26 (by decide)).trans e26
    replace e29 := (k1 29 (by decide)).trans e29
    replace e33 := (k1 33 (by decide)).trans e33
    have e35 := n1
    clear s1 f1 n1 k1
    refine wpAnyH_two ⟨some 30, Op.load 26 (Operand.tmp 29), 26, "", #[], none⟩ ⟨some 36, Op.call { callee := Callee.value (Operand.func 31), args := #[Operand.const (Value.int IntKind.i64 40)], argTypes := #[3] }, 3, "", #[], none⟩ HR.out.f11 HR.out.o4 HR.out.o10 rfl rfl (fun Ka hKa => ?_) (fun Ka hKa => ?_)
    · refine wp_value (xr_ld t v _ _ e29 HC.out) (hKa.out _ _ (trivial) ?_)
      clear hKa Ka
      show wpAnyH _ _ _ _ _ _ _ (Act.put a9 (some 30) (v)) _
      obtain ⟨s1, f1, n1, k1⟩ := act_put a9 30 (v) (show 30 < _ by rw [hsz]; decide)
      obtain ⟨a10, ha1⟩ : ∃ x, x = Act.put a9 (some 30) (v) := ⟨_, rfl⟩
      rw [← ha1] at s1 f1 n1 k1 ⊢
      clear ha1
      replace hsz := s1.trans hsz
      replace hdf := f1.trans hdf
      replace e26 := (k1 26 (by decide)).trans e26
      replace e33 := (k1 33 (by decide)).trans e33
      replace e35 := (k1 35 (by decide)).trans e35
      have e30 := n1
      clear s1 f1 n1 k1
      refine wpAnyH_one ⟨some 36, Op.call { callee := Callee.value (Operand.func 31), args := #[Operand.const (Value.int IntKind.i64 40)], argTypes := #[3] }, 3, "", #[], none⟩ HR.out.f12 HR.out.o10 rfl (fun Ka hKa => ?_)
      refine wp_enter (xr_10 t q v v2 pa pb now w1 w2 g cap n _ _ (fun _ => rfl) rfl ) (HW.out _) ?_
      rintro e9 w9 ⟨rfl, hw9⟩
      subst hw9
      refine ⟨_, rfl, hKa.out _ _ (trivial) ?_⟩
      clear hKa Ka
      show wpAnyH _ _ _ _ _ _ _ (Act.put a10 (some 36) (.int .i64 83)) _
      obtain ⟨s1, f1, n1, k1⟩ := act_put a10 36 (.int .i64 83) (show 36 < _ by rw [hsz]; decide)
      obtain ⟨a11, ha1⟩ : ∃ x, x = Act.put a10 (some 36) (.int .i64 83) := ⟨_, rfl⟩
      rw [← ha1] at s1 f1 n1 k1 ⊢
      clear ha1
      replace hsz := s1.trans hsz
      replace hdf := f1.trans hdf
      replace e26 := (k1 26 (by decide)).trans e26
      replace e33 := (k1 33 (by decide)).trans e33
      replace e35 := (k1 35 (by decide)).trans e35
      replace e30 := (k1 30 (by decide)).trans e30
      have e36 := n1
      clear s1 f1 n1 k1
      refine wpAnyH_takes HR.out.sel hQ (trivial) [11, 12] 5 _ _ HR.out.f13 ?_
      refine wpTake_stepE ⟨some 37, Op.binOp BinOp.add 3 (Operand.tmp 35) (Operand.tmp 36) 3, 3, "", #[], none⟩ 37 (.int .i64 (waits now + 83)) HR.out.o11 rfl (by rw [hsz]; decide) (wanted_none rfl) (fun z hS => xr_11 t q v v2 pa pb now w1 w2 g cap n _ z (fun _ => rfl) e35 e36 hS) ?_
      intro a12 ha1 s1 f1 n1 k1
      clear ha1
      replace hsz := s1.trans hsz
      replace hdf := f1.trans hdf
      replace e26 := (k1 26 (by decide)).trans e26
      replace e33 := (k1 33 (by decide)).trans e33
      replace e30 := (k1 30 (by decide)).trans e30
      have e37 := n1
      clear s1 f1 n1 k1
      refine wpTake_stepE ⟨some 38, Op.build 67 #[(0, Operand.tmp 33), (1, Operand.tmp 37)], 67, "", #[], none⟩ 38 (.agg #[.int .i64 pa, .int .i64 pb, .int .i64 (waits now + 83)]) HR.out.o12 rfl (by rw [hsz]; decide) (wanted_none rfl) (fun z hS => xr_12 t q v v2 pa pb now w1 w2 g cap n _ z (fun _ => rfl) e33 e37 hS) ?_
      intro a13 ha1 s1 f1 n1 k1
      clear ha1
      replace hsz := s1.trans hsz
      replace hdf := f1.trans hdf
      replace e26 := (k1 26 (by decide)).trans e26
      replace e30 := (k1 30 (by decide)).trans e30
      have e38 := n1
      clear s1 f1 n1 k1
      refine wpTake_nil ?_
      refine wpAnyH_run ⟨some 39, Op.buildSlice 26 1 #[(0, Operand.tmp 38)], 26, "", #[], none⟩ _ (.slice (some ⟨q, 0, none⟩) 1 1) _ HR.out.f14 HR.out.o13 rfl rfl (HBS.out _ e38) (trivial) ?_
      obtain ⟨s1, f1, n1, k1⟩ := act_put a13 39 (.slice (some ⟨q, 0, none⟩) 1 1) (show 39 < _ by rw [hsz]; decide)
      obtain ⟨a14, ha1⟩ : ∃ x, x = Act.put a13 (some 39) (.slice (some ⟨q, 0, none⟩) 1 1) := ⟨_, rfl⟩
      rw [← ha1] at s1 f1 n1 k1 ⊢
      clear ha1
      replace hsz := s1.trans hsz
      replace hdf := f1.trans hdf
      replace e26 := (k1 26 (by decide)).trans e26
      replace e30 := (k1 30 (by decide)).trans e30
      have e39 := n1
      clear s1 f1 n1 k1
      refine wpAnyH_run ⟨some 40, Op.call { callee := Callee.builtin Builtin.append, args := #[Operand.tmp 30, Operand.tmp 39], argTypes := #[26, 26] }, 26, "", #[], none⟩ _ (.slice (some ⟨g, 0, none⟩) (n + 1) cap) _ HR.out.f15 HR.out.o14 rfl rfl (xr_ap _ _ _ _ _ _ e30 e39 hap) (trivial) ?_
      obtain ⟨s1, f1, n1, k1⟩ := act_put a14 40 (.slice (some ⟨g, 0, none⟩) (n + 1) cap) (show 40 < _ by rw [hsz]; decide)
      obtain ⟨a15, ha1⟩ : ∃ x, x = Act.put a14 (some 40) (.slice (some ⟨g, 0, none⟩) (n + 1) cap) := ⟨_, rfl⟩
      rw [← ha1] at s1 f1 n1 k1 ⊢
      clear ha1
      replace hsz := s1.trans hsz
      replace hdf := f1.trans hdf
      replace e26 := (k1 26 (by decide)).trans e26
      have e40 := n1
      clear s1 f1 n1 k1
      refine wpAnyH_takes HR.out.sel hQ (trivial) [15, 16] 1 _ _ HR.out.f16 ?_
      refine wpTake_stepE ⟨some 41, Op.nilCheck (Operand.tmp 26), 0, "", #[], none⟩ 41 (.pointer (some ⟨t, 0, none⟩)) HR.out.o15 rfl (by rw [hsz]; decide) (wanted_none rfl) (fun z hS => xr_15 t q v v2 pa pb now w1 w2 g cap n _ z (fun _ => rfl) e26 hS) ?_
      intro a16 ha1 s1 f1 n1 k1
      clear ha1
      replace hsz := s1.trans hsz
      replace hdf := f1.trans hdf
      replace e40 := (k1 40 (by decide)).trans e40
      have e41 := n1
      clear s1 f1 n1 k1
      refine wpTake_stepE ⟨some 42, Op.fieldAddr 28 (Operand.tmp 41) 0, 0, "", #[], none⟩ 42 (.pointer (some ⟨t, 0, none⟩)) HR.out.o16 rfl (by rw [hsz]; decide) (wanted_none rfl) (fun z hS => xr_16 t q v v2 pa pb now w1 w2 g cap n _ z (fun _ => rfl) e41 hS) ?_
      intro a17 ha1 s1 f1 n1 k1
      clear ha1
      replace hsz := s1.trans hsz
      replace hdf := f1.trans hdf
      replace e40 := (k1 40 (by decide)).trans e40
      have e42 := n1
      clear s1 f1 n1 k1
      refine wpTake_nil ?_
      refine wpAnyH_skip ⟨none, Op.store 26 (Operand.tmp 42) (Operand.tmp 40), 0, "", #[], none⟩ _ HR.out.f17 HR.out.o17 rfl rfl (xr_st t g n cap v _ _ e42 e40 hc2 hf2) (trivial) ?_
      refine wpAnyH_done HR.out.f18 ?_ _
      exact hK _ hdf
    · refine wp_enter (xr_10 t q v v2 pa pb now w1 w2 g cap n _ _ (fun _ => rfl) rfl ) (HW.out _) ?_
      rintro e9 w9 ⟨rfl, hw9⟩
      subst hw9
      refine ⟨_, rfl, hKa.out _ _ (trivial) ?_⟩
      clear hKa Ka
      show wpAnyH _ _ _ _ _ _ _ (Act.put a9 (some 36) (.int .i64 83)) _
      obtain ⟨s1, f1, n1, k1⟩ := act_put a9 36 (.int .i64 83) (show 36 < _ by rw [hsz]; decide)
      obtain ⟨a10, ha1⟩ : ∃ x, x = Act.put a9 (some 36) (.int .i64 83) := ⟨_, rfl⟩
      rw [← ha1] at s1 f1 n1 k1 ⊢
      clear ha1
      replace hsz := s1.trans hsz
      replace hdf := f1.trans hdf
      replace e26 := (k1 26 (by decide)).trans e26
      replace e29 := (k1 29 (by decide)).trans e29
      replace e33 := (k1 33 (by decide)).trans e33
      replace e35 := (k1 35 (by decide)).trans e35
      have e36 := n1
      clear s1 f1 n1 k1
      refine wpAnyH_takes HR.out.sel hQ (trivial) [11, 12] 6 _ _ HR.out.f19 ?_
      refine wpTake_stepE ⟨some 37, Op.binOp BinOp.add 3 (Operand.tmp 35) (Operand.tmp 36) 3, 3, "", #[], none⟩ 37 (.int .i64 (waits now + 83)) HR.out.o11 rfl (by rw [hsz]; decide) (wanted_none rfl) (fun z hS => xr_11 t q v v2 pa pb now w1 w2 g cap n _ z (fun _ => rfl) e35 e36 hS) ?_
      intro a11 ha1 s1 f1 n1 k1
      clear ha1
      replace hsz := s1.trans hsz
      replace hdf := f1.trans hdf
      replace e26 := (k1 26 (by decide)).trans e26
      replace e29 := (k1 29 (by decide)).trans e29
      replace e33 := (k1 33 (by decide)).trans e33
      have e37 := n1
      clear s1 f1 n1 k1
      refine wpTake_stepE ⟨some 38, Op.build 67 #[(0, Operand.tmp 33), (1, Operand.tmp 37)], 67, "", #[], none⟩ 38 (.agg #[.int .i64 pa, .int .i64 pb, .int .i64 (waits now + 83)]) HR.out.o12 rfl (by rw [hsz]; decide) (wanted_none rfl) (fun z hS => xr_12 t q v v2 pa pb now w1 w2 g cap n _ z (fun _ => rfl) e33 e37 hS) ?_
      intro a12 ha1 s1 f1 n1 k1
      clear ha1
      replace hsz := s1.trans hsz
      replace hdf := f1.trans hdf
      replace e26 := (k1 26 (by decide)).trans e26
      replace e29 := (k1 29 (by decide)).trans e29
      have e38 := n1
      clear s1 f1 n1 k1
      refine wpTake_nil ?_
      refine wpAnyH_two ⟨some 30, Op.load 26 (Operand.tmp 29), 26, "", #[], none⟩ ⟨some 39, Op.buildSlice 26 1 #[(0, Operand.tmp 38)], 26, "", #[], none⟩ HR.out.f20 HR.out.o4 HR.out.o13 rfl rfl (fun Ka hKa => ?_) (fun Ka hKa => ?_)
      · refine wp_value (xr_ld t v _ _ e29 HC.out) (hKa.out _ _ (trivial) ?_)
        clear hKa Ka
        show wpAnyH _ _ _ _ _ _ _ (Act.put a12 (some 30) (v)) _
        obtain ⟨s1, f1, n1, k1⟩ := act_put a12 30 (v) (show 30 < _ by rw [hsz]; decide)
        obtain ⟨a13, ha1⟩ : ∃ x, x = Act.put a12 (some 30) (v) := ⟨_, rfl⟩
        rw [← ha1] at s1 f1 n1 k1 ⊢
        clear ha1
        replace hsz := s1.trans hsz
        replace hdf := f1.trans hdf
        replace e26 := (k1 26 (by decide)).trans e26
        replace e38 := (k1 38 (by decide)).trans e38
        have e30 := n1
        clear s1 f1 n1 k1
        refine wpAnyH_run ⟨some 39, Op.buildSlice 26 1 #[(0, Operand.tmp 38)], 26, "", #[], none⟩ _ (.slice (some ⟨q, 0, none⟩) 1 1) _ HR.out.f21 HR.out.o13 rfl rfl (HBS.out _ e38) (trivial) ?_
        obtain ⟨s1, f1, n1, k1⟩ := act_put a13 39 (.slice (some ⟨q, 0, none⟩) 1 1) (show 39 < _ by rw [hsz]; decide)
        obtain ⟨a14, ha1⟩ : ∃ x, x = Act.put a13 (some 39) (.slice (some ⟨q, 0, none⟩) 1 1) := ⟨_, rfl⟩
        rw [← ha1] at s1 f1 n1 k1 ⊢
        clear ha1
        replace hsz := s1.trans hsz
        replace hdf := f1.trans hdf
        replace e26 := (k1 26 (by decide)).trans e26
        replace e30 := (k1 30 (by decide)).trans e30
        have e39 := n1
        clear s1 f1 n1 k1
        refine wpAnyH_run ⟨some 40, Op.call { callee := Callee.builtin Builtin.append, args := #[Operand.tmp 30, Operand.tmp 39], argTypes := #[26, 26] }, 26, "", #[], none⟩ _ (.slice (some ⟨g, 0, none⟩) (n + 1) cap) _ HR.out.f22 HR.out.o14 rfl rfl (xr_ap _ _ _ _ _ _ e30 e39 hap) (trivial) ?_
        obtain ⟨s1, f1, n1, k1⟩ := act_put a14 40 (.slice (some ⟨g, 0, none⟩) (n + 1) cap) (show 40 < _ by rw [hsz]; decide)
        obtain ⟨a15, ha1⟩ : ∃ x, x = Act.put a14 (some 40) (.slice (some ⟨g, 0, none⟩) (n + 1) cap) := ⟨_, rfl⟩
        rw [← ha1] at s1 f1 n1 k1 ⊢
        clear ha1
        replace hsz := s1.trans hsz
        replace hdf := f1.trans hdf
        replace e26 := (k1 26 (by decide)).trans e26
        have e40 := n1
        clear s1 f1 n1 k1
        refine wpAnyH_takes HR.out.sel hQ (trivial) [15, 16] 1 _ _ HR.out.f23 ?_
        refine wpTake_stepE ⟨some 41, Op.nilCheck (Operand.tmp 26), 0, "", #[], none⟩ 41 (.pointer (some ⟨t, 0, none⟩)) HR.out.o15 rfl (by rw [hsz]; decide) (wanted_none rfl) (fun z hS => xr_15 t q v v2 pa pb now w1 w2 g cap n _ z (fun _ => rfl) e26 hS) ?_
        intro a16 ha1 s1 f1 n1 k1
        clear ha1
        replace hsz := s1.trans hsz
        replace hdf := f1.trans hdf
        replace e40 := (k1 40 (by decide)).trans e40
        have e41 := n1
        clear s1 f1 n1 k1
        refine wpTake_stepE ⟨some 42, Op.fieldAddr 28 (Operand.tmp 41) 0, 0, "", #[], none⟩ 42 (.pointer (some ⟨t, 0, none⟩)) HR.out.o16 rfl (by rw [hsz]; decide) (wanted_none rfl) (fun z hS => xr_16 t q v v2 pa pb now w1 w2 g cap n _ z (fun _ => rfl) e41 hS) ?_
        intro a17 ha1 s1 f1 n1 k1
        clear ha1
        replace hsz := s1.trans hsz
        replace hdf := f1.trans hdf
        replace e40 := (k1 40 (by decide)).trans e40
        have e42 := n1
        clear s1 f1 n1 k1
        refine wpTake_nil ?_
        refine wpAnyH_skip ⟨none, Op.store 26 (Operand.tmp 42) (Operand.tmp 40), 0, "", #[], none⟩ _ HR.out.f24 HR.out.o17 rfl rfl (xr_st t g n cap v _ _ e42 e40 hc2 hf2) (trivial) ?_
        refine wpAnyH_done HR.out.f25 ?_ _
        exact hK _ hdf
      · refine wp_value (HBS.out _ e38) (hKa.out _ _ (trivial) ?_)
        clear hKa Ka
        show wpAnyH _ _ _ _ _ _ _ (Act.put a12 (some 39) (.slice (some ⟨q, 0, none⟩) 1 1)) _
        obtain ⟨s1, f1, n1, k1⟩ := act_put a12 39 (.slice (some ⟨q, 0, none⟩) 1 1) (show 39 < _ by rw [hsz]; decide)
        obtain ⟨a13, ha1⟩ : ∃ x, x = Act.put a12 (some 39) (.slice (some ⟨q, 0, none⟩) 1 1) := ⟨_, rfl⟩
        rw [← ha1] at s1 f1 n1 k1 ⊢
        clear ha1
        replace hsz := s1.trans hsz
        replace hdf := f1.trans hdf
        replace e26 := (k1 26 (by decide)).trans e26
        replace e29 := (k1 29 (by decide)).trans e29
        have e39 := n1
        clear s1 f1 n1 k1
        refine wpAnyH_run ⟨some 30, Op.load 26 (Operand.tmp 29), 26, "", #[], none⟩ _ (v) _ HR.out.f26 HR.out.o4 rfl rfl (xr_ld t v _ _ e29 HC1.out) (trivial) ?_
        obtain ⟨s1, f1, n1, k1⟩ := act_put a13 30 (v) (show 30 < _ by rw [hsz]; decide)
        obtain ⟨a14, ha1⟩ : ∃ x, x = Act.put a13 (some 30) (v) := ⟨_, rfl⟩
        rw [← ha1] at s1 f1 n1 k1 ⊢
        clear ha1
        replace hsz := s1.trans hsz
        replace hdf := f1.trans hdf
        replace e26 := (k1 26 (by decide)).trans e26
        replace e39 := (k1 39 (by decide)).trans e39
        have e30 := n1
        clear s1 f1 n1 k1
        refine wpAnyH_run ⟨some 40, Op.call { callee := Callee.builtin Builtin.append, args := #[Operand.tmp 30, Operand.tmp 39], argTypes := #[26, 26] }, 26, "", #[], none⟩ _ (.slice (some ⟨g, 0, none⟩) (n + 1) cap) _ HR.out.f27 HR.out.o14 rfl rfl (xr_ap _ _ _ _ _ _ e30 e39 hap) (trivial) ?_
        obtain ⟨s1, f1, n1, k1⟩ := act_put a14 40 (.slice (some ⟨g, 0, none⟩) (n + 1) cap) (show 40 < _ by rw [hsz]; decide)
        obtain ⟨a15, ha1⟩ : ∃ x, x = Act.put a14 (some 40) (.slice (some ⟨g, 0, none⟩) (n + 1) cap) := ⟨_, rfl⟩
        rw [← ha1] at s1 f1 n1 k1 ⊢
        clear ha1
        replace hsz := s1.trans hsz
        replace hdf := f1.trans hdf
        replace e26 := (k1 26 (by decide)).trans e26
        have e40 := n1
        clear s1 f1 n1 k1
        refine wpAnyH_takes HR.out.sel hQ (trivial) [15, 16] 1 _ _ HR.out.f28 ?_
        refine wpTake_stepE ⟨some 41, Op.nilCheck (Operand.tmp 26), 0, "", #[], none⟩ 41 (.pointer (some ⟨t, 0, none⟩)) HR.out.o15 rfl (by rw [hsz]; decide) (wanted_none rfl) (fun z hS => xr_15 t q v v2 pa pb now w1 w2 g cap n _ z (fun _ => rfl) e26 hS) ?_
        intro a16 ha1 s1 f1 n1 k1
        clear ha1
        replace hsz := s1.trans hsz
        replace hdf := f1.trans hdf
        replace e40 := (k1 40 (by decide)).trans e40
        have e41 := n1
        clear s1 f1 n1 k1
        refine wpTake_stepE ⟨some 42, Op.fieldAddr 28 (Operand.tmp 41) 0, 0, "", #[], none⟩ 42 (.pointer (some ⟨t, 0, none⟩)) HR.out.o16 rfl (by rw [hsz]; decide) (wanted_none rfl) (fun z hS => xr_16 t q v v2 pa pb now w1 w2 g cap n _ z (fun _ => rfl) e41 hS) ?_
        intro a17 ha1 s1 f1 n1 k1
        clear ha1
        replace hsz := s1.trans hsz
        replace hdf := f1.trans hdf
        replace e40 := (k1 40 (by decide)).trans e40
        have e42 := n1
        clear s1 f1 n1 k1
        refine wpTake_nil ?_
        refine wpAnyH_skip ⟨none, Op.store 26 (Operand.tmp 42) (Operand.tmp 40), 0, "", #[], none⟩ _ HR.out.f29 HR.out.o17 rfl rfl (xr_st t g n cap v _ _ e42 e40 hc2 hf2) (trivial) ?_
        refine wpAnyH_done HR.out.f30 ?_ _
        exact hK _ hdf

set_option maxRecDepth 100000 in
set_option maxHeartbeats 3200000 in
theorem xretire_new {w : World} {base t : Nat} {l : List Wt} (h : Xl w base t l) (pa pb now : Int) (hin : (pa, pb) ∉ l.map key) (hl : l.length ≤ 100) :
    Calls Try.prog 11 #[.pointer (some ⟨t, 0, none⟩), .int .i64 pa, .int .i64 pb, .int .i64 now] w fun e w' => e = .returned (.tuple #[]) ∧ Kp (fun b => b = t ∨ (base ≤ b ∧ tyB w b 67)) w w' ∧ Xl w' base t (l ++ [⟨pa, pb, waits now + 83⟩]) := by
  have HIN : Hid ((pa, pb) ∉ l.map key) := hin
  have HH : Hid (Xl w base t l) := h
  obtain ⟨v, ht, hr, hne, hbt⟩ := h
  obtain ⟨p1, c1, rfl, q1⟩ := Xr.ofOwn hr
  obtain ⟨n, hn⟩ : ∃ n, n = l.length := ⟨_, rfl⟩
  have Q1 : Hid (∀ j, j < n → ∃ g o, p1 = some ⟨g, o, none⟩ ∧ w.cell? ⟨g, o + j * 3, none⟩ = some (.int .i64 (l.getD j wt0).b) ∧ w.cell? ⟨g, o + j * 3 + 1, none⟩ = some (.int .i64 (l.getD j wt0).i) ∧ w.cell? ⟨g, o + j * 3 + 2, none⟩ = some (.int .i64 (l.getD j wt0).t)) := fun j hj => by
    obtain ⟨g, o, e, _, c1, c2, c3⟩ := q1 j (by omega)
    exact ⟨g, o, e, c1, c2, c3⟩
  have HN : Hid (n = l.length ∧ n ≤ 100) := ⟨hn, by omega⟩
  have hc := ht.cell (j := 0) rfl
  rw [← hn] at hc
  clear q1 hn hl hr hne hbt ht hin
  have hn9 : n ≤ 100 := HN.out.2
  go_enter Try.func11, Try.ntmps11
  go_wp2
  go_loopg [15] n (fun gk i wr => ∃ (k : Nat), k ≤ n ∧ gk = n - k ∧ i = .int .i64 k ∧ Hid (Kp (fun _ => False) w wr ∧ (pa, pb) ∉ (l.take k).map key))
  case atStart => exact ⟨0, Nat.zero_le _, rfl, rfl, Kp.refl _ _, by simp⟩
  case round =>
    obtain ⟨k, hk, rfl, rfl, HS⟩ := hrel
    by_cases hlt : (k : Int) < (n : Int)
    · obtain ⟨g1, o1, rfl, a1, b1, d1⟩ := Q1.out k (by omega)
      have hs := HS.out
      have a2 := hs.1.cellv a1 id
      have b2 := hs.1.cellv b1 id
      have d2 := hs.1.cellv d1 id
      have HKK : Hid (k < n) := by show k < n; omega
      have htk : (l.take (k + 1)).map key = (l.take k).map key ++ [key (l.getD k wt0)] := by
        have hkl : k < l.length := by have := HN.out; omega
        rw [List.take_add_one, List.getElem?_eq_getElem hkl, List.getD_eq_getElem?_getD, List.getElem?_eq_getElem hkl, List.map_append]
        rfl
      obtain ⟨x, hx⟩ : ∃ x, x = l.getD k wt0 := ⟨_, rfl⟩
      rw [← hx] at a2 b2 d2 htk
      obtain ⟨xa, xb, xt⟩ := x
      dsimp only at a2 b2 d2
      have hxl : Lv (wr.alloc (.cells #[.int .i64 xa, .int .i64 xb, .int .i64 xt] 67)) wr.heap.size [.int .i64 xa, .int .i64 xb, .int .i64 xt] := Lv.new wr _ _
      have px0 := hxl.cell (j := 0) rfl
      have px1 := hxl.cell (j := 1) rfl
      have px2 := hxl.cell (j := 2) rfl
      have HXO : Hid (Kp (fun _ => False) w (wr.alloc (.cells #[.int .i64 xa, .int .i64 xb, .int .i64 xt] 67))) := hs.1.alloc _
      have HTK : Hid ((l.take (k + 1)).map key = (l.take k).map key ++ [(xa, xb)]) := htk
      have hnq := eqlP2 xa xb pa pb
      have hgd := fun x y => gdP2 .eql x y xa xb pa pb
      clear hs a1 b1 d1 htk hxl hx
      by_cases he : xa = pa ∧ xb = pb
      · refine absurd ?_ HIN.out
        have hm : (xa, xb) ∈ (l.take (k + 1)).map key := by rw [HTK.out]; simp
        rw [he.1, he.2] at hm
        obtain ⟨y, hy1, hy2⟩ := List.mem_map.1 hm
        exact List.mem_map.2 ⟨y, List.mem_of_mem_take hy1, hy2⟩
      · have hbv : ((xa == pa) && (xb == pb)) = false := by simp; omega
        rw [hbv] at hnq
        have HF : Hid (Kp (fun _ => False) w (wr.alloc (.cells #[.int .i64 xa, .int .i64 xb, .int .i64 xt] 67)) ∧ (pa, pb) ∉ (l.take (k + 1)).map key) := by
          refine ⟨HXO.out, fun hm => ?_⟩
          rw [HTK.out, List.mem_append] at hm
          rcases hm with hm | hm
          · exact HS.out.2 hm
          · rw [List.mem_singleton] at hm
            injection hm with e1 e2
            exact he ⟨e1.symm, e2.symm⟩
        clear hbv he
        go_wp2
        go_roundg (n - (k + 1))
        case rel => exact ⟨k + 1, by have := HKK.out; omega, rfl, by go_num, HF⟩
        case measure => have := HKK.out; omega
    · have hs := HS.out
      have hh := HH.out
      have kd : Kp (fun _ => False) wr wr.drew := (Kp.refl _ _).drew
      obtain ⟨v, hlv, hown, hne, hbt⟩ := hh.keep hs.1 (fun _ _ _ => id)
      have hvn : v = .slice p1 n c1 := by
        have e1 := hlv.cell (j := 0) rfl
        have e2 := hs.1.cellv hc id
        rw [e1] at e2
        exact Option.some.inj e2
      have hb0 : base ≤ wr.heap.size := Nat.le_trans hbt (Nat.le_of_lt (hlv.lt (by simp)))
      obtain ⟨q, hq⟩ : ∃ q, q = wr.drew.heap.size := ⟨_, rfl⟩
      obtain ⟨w1, hw1⟩ : ∃ x, x = wr.drew.alloc (.cells #[.int .i64 pa, .int .i64 pb, .int .i64 (waits now + 83)] 67) := ⟨_, rfl⟩
      have k1 : Kp (fun _ => False) wr w1 := by rw [hw1]; exact kd.alloc _
      have hx : Lv w1 q [.int .i64 pa, .int .i64 pb, .int .i64 (waits now + 83)] := by rw [hw1, hq]; exact Lv.new wr.drew _ _
      obtain ⟨ti, tz, hi1, hi2, hi3, hi4, hi5⟩ := infoX
      obtain ⟨v2, w2, hap, hown2, hgrow, hblk⟩ := run_append_own_src (P := Try.prog) w1 base 26 26 26 67 ti tz 3 24 uXs hi1 hi2 hi3 hi4 hi5 (by decide) v l.length (wflat l) (ownsRow_keep hown k1 (fun _ _ e => e)) (.slice (some ⟨q, 0, none⟩) 1 1) 1 [.int .i64 pa, .int .i64 pb, .int .i64 (waits now + 83)] (Src.ofSlice _ uXs ⟨q, 0, none⟩ 1 1 [.int .i64 pa, .int .i64 pb, .int .i64 (waits now + 83)] rfl (fun j u hj => by rw [Addr.add_mid, Nat.zero_add]; exact hx.cell hj) (fun u hu => by simp only [List.mem_cons, List.not_mem_nil, or_false] at hu; rcases hu with rfl | rfl | rfl <;> rfl)) (by have := HN.out; unfold maxLen; omega) (by have := HN.out; omega) (Nat.le_trans hb0 k1.size)
      have k2 := grownBy_kp hgrow
      have hv' : ∃ g' cap', v2 = .slice (some ⟨g', 0, none⟩) (l.length + 1) cap' := by
        rcases Joins.ownsRow_forms hown2 with ⟨e1, e2⟩ | ⟨g', cap', e⟩
        · omega
        · exact ⟨g', cap', e⟩
      obtain ⟨g', cap', rfl⟩ := hv'
      have hl1 := hlv.keep k1 id
      have hl2 : Lv w2 t [v] := hl1.keep k2 hne
      have htl := hlv.lt (by simp)
      have hgt : g' ≠ t := by
        rcases hblk with e | e
        · intro h2
          apply hne
          rw [← e, h2]
          rfl
        · have e' : some g' = some w1.heap.size := e
          injection e' with e'
          have := k1.size
          omega
      have ks : Kp (fun b => b = t) w2 (w2.setCell ⟨t, 0, none⟩ (.slice (some ⟨g', 0, none⟩) (l.length + 1) cap')) := (Kp.refl (fun b => b = t) w2).setCell (fun _ => rfl) _
      have HFIN : Hid (Kp (fun b => b = t ∨ (base ≤ b ∧ tyB w b 67)) w (w2.setCell ⟨t, 0, none⟩ (.slice (some ⟨g', 0, none⟩) (l.length + 1) cap')) ∧ Xl (w2.setCell ⟨t, 0, none⟩ (.slice (some ⟨g', 0, none⟩) (l.length + 1) cap')) base t (l ++ [⟨pa, pb, waits now + 83⟩])) := by
        refine ⟨?_, .slice (some ⟨g', 0, none⟩) (l.length + 1) cap', hl2.set1 0 _ (by simp), ?_, ?_, hbt⟩
        · have a1 : Kp (fun b => b = t ∨ (base ≤ b ∧ tyB w b 67)) w w1 := (hs.1.trans k1 (fun _ _ e => e)).mono (fun _ _ e => e.elim)
          have a2 : Kp (fun b => b = t ∨ (base ≤ b ∧ tyB w b 67)) w w2 := a1.trans k2 (fun b hb e => Or.inr ⟨(ownBlock_lt hown e).1, by
            obtain ⟨cs, hcs⟩ := tyB_own hown e
            exact ⟨cs, by rw [← hs.1.block b hb id]; exact hcs⟩⟩)
          exact a2.trans ks (fun b _ e => Or.inl e)
        · rw [List.length_append, wflat_append]
          exact ownsRow_keep hown2 ks (fun g0 e e2 => by have e' : some g' = some g0 := e; injection e' with e'; exact hgt (e'.trans e2))
        · intro e
          have e' : some g' = some t := e
          injection e' with e'
          exact hgt e'
      have hC : wr.drew.cell? ⟨t, 0, none⟩ = some v := (hlv.keep kd id).cell (j := 0) rfl
      have hC1 := hl1.cell (j := 0) rfl
      have hc2 := hl2.cell (j := 0) rfl
      have hf2 : w2.frozen? ⟨t, 0, none⟩ = false := hl2.fz (by simp)
      clear hh hlv hown hne hown2 hgrow hblk hl1 hl2 hx k1 k2 ks kd hvn hs
      go_wp2
      refine xr_region ⟨by kernel_rfl, by kernel_rfl, by kernel_rfl, by kernel_rfl, by kernel_rfl, by kernel_rfl, by kernel_rfl, by kernel_rfl, by kernel_rfl, by kernel_rfl, by kernel_rfl, by kernel_rfl, by kernel_rfl, by kernel_rfl, by kernel_rfl, by kernel_rfl, by kernel_rfl, by kernel_rfl, by kernel_rfl, by kernel_rfl, by kernel_rfl, by kernel_rfl, by kernel_rfl, by kernel_rfl, by kernel_rfl, by kernel_rfl, by kernel_rfl, by kernel_rfl, by kernel_rfl, by kernel_rfl, by kernel_rfl, by kernel_rfl, by kernel_rfl, by kernel_rfl, by kernel_rfl, by kernel_rfl, by kernel_rfl, by kernel_rfl, by kernel_rfl, by kernel_rfl, by kernel_rfl, by kernel_rfl, by kernel_rfl, by kernel_rfl, by kernel_rfl, by kernel_rfl, by kernel_rfl, by kernel_rfl, by kernel_rfl, by kernel_rfl⟩ t q v (.slice (some ⟨g', 0, none⟩) (l.length + 1) cap') pa pb now w1 w2 g' cap' l.length (fun d _ _ _ _ h => by cases d <;> exact h) (by rfl) (by rfl) (by rfl) (by rfl) (by rfl) hC hC1 hw1 hq hap hc2 hf2 ?_
      intro a' ha'
      refine bodyPost_end (results_none rfl _ _ _) ha' ?_
      exact ⟨rfl, HFIN.out⟩
end Go.Proofs.Ytnpaoppfhffoiaa
