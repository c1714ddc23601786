/- Texts of this proof, joined: Th, On. -/
import Derived.Test.YtoepemgflbmlcaaDoorMgAJ
/- Regions that draw their order: guarded operations that are wanted; calls. (Over Tk.) -/
namespace Go.Proofs.YtoepemgflbmlcaaDoor
open Go.RowKit Go.Deep

section
variable {P : Program} {md : Region.Mode} {ops : Array Oper} {Q : Exit → Act → World → Prop} {S : World → Prop}
theorem yielded_of {a : Act} {j d : Nat} {b : Bool} {oj : Oper} (hj : (ops[j]?).map bare = some oj) (hd : oj.dst = some d) (he : a.eval (.tmp d) = .bool b) (hs : d < a.tmps.size) : yielded ops a.tmps j = some b := by
  obtain ⟨o', ho', rfl⟩ := Option.map_eq_some_iff.1 hj
  have hd' : o'.dst = some d := hd
  have he' : a.tmps[d]? = some (.bool b) := by
    have h2 : a.tmps.getD d undef = .bool b := he
    rw [Array.getD_eq_getD_getElem?, Array.getElem?_eq_getElem hs] at h2
    rw [Array.getElem?_eq_getElem hs]
    exact congrArg some h2
  unfold yielded
  rw [ho']
  simp [hd', he']
theorem wanted_none {o : Oper} {f : Nat → Option Bool} (h : o.guard = none) : Region.wanted o f = true := by unfold Region.wanted; rw [h]
theorem wanted_some {o : Oper} {f : Nat → Option Bool} {j : Nat} {b : Bool} (h : o.guard = some (j, b)) (hf : f j = some b) : Region.wanted o f = true := by unfold Region.wanted; rw [h]; simp [hf]
/-- a quiet operation is taken -/
theorem wpTake_stepE {K : Act → Prop} {i : Nat} {is : List Nat} {a : Act} (o : Oper) (d : Nat) (v : Value) (ho : (ops[i]?).map bare = some o) (hd : o.dst = some d) (hl : d < a.tmps.size) (hg : Region.wanted o (yielded ops a.tmps) = true)
    (hy : ∀ w, S w → (execOp a.eval o).run P w = .ok (.value v) w)
    (h : ∀ a' : Act, a' = a.put (some d) v → a'.tmps.size = a.tmps.size → a'.defers = a.defers → a'.eval (.tmp d) = v → (∀ t, t ≠ d → a'.eval (.tmp t) = a.eval (.tmp t)) → wpTake P ops S K is a') : wpTake P ops S K (i :: is) a := by
  obtain ⟨o', ho', rfl⟩ := Option.map_eq_some_iff.1 ho
  obtain ⟨h1, h2, h3, h4⟩ := act_put a d v hl
  refine ⟨o', v, ho', Or.inl ⟨?_, fun w hS => ?_⟩, ?_⟩
  · have : Region.wanted (bare o') (yielded ops a.tmps) = Region.wanted o' (yielded ops a.tmps) := by cases o'; rfl
    rw [← this]; exact hg
  · have := hy w hS
    rwa [exec_bare] at this
  · have hd' : o'.dst = some d := hd
    rw [hd']
    exact h _ rfl h1 h2 h3 h4
/-- the one operation that may come up, guarded and wanted, is run -/
theorem wpAnyH_oneG {i fuel : Nat} {listed : Array Bool} {a : Act} {w : World} (o : Oper) (hr : Region.ready md ops listed = [i]) (ho : (ops[i]?).map bare = some o) (hg : Region.wanted o (yielded ops a.tmps) = true)
    (h : ∀ K' : Act → World → Prop, Shut (∀ a' w', S w' → wpAnyH P md ops Q S fuel (listed.setIfInBounds i true) a' w' → K' a' w') → Oper.wp P o a w K' Q) : wpAnyH P md ops Q S (fuel + 1) listed a w := by
  obtain ⟨o', ho', rfl⟩ := Option.map_eq_some_iff.1 ho
  refine wpAnyH_ready hr (by simp) (AllReadyH.cons ho' (fun K' hK => ?_) AllReadyH.nil)
  have e : Region.wanted (bare o') (yielded ops a.tmps) = Region.wanted o' (yielded ops a.tmps) := by cases o'; rfl
  rw [e] at hg
  rw [if_pos hg]
  have := h K' (fun a' w' hS hW => hK.out a' w' hS (fun _ => hW))
  rwa [wp_bare] at this
/-- a call, by its contract -/
theorem wp_enter {o : Oper} {a : Act} {w : World} {K : Act → World → Prop} {f : FuncId} {args : Array Value} {R : Ending → World → Prop} (hrun : (execOp a.eval o).run P w = .ok (.enter f args) w) (hc : Calls P f args w R)
    (h : ∀ e w', R e w' → ∃ v, e = .returned v ∧ K (a.put o.dst v) w') : Oper.wp P o a w K Q := by
  unfold Oper.wp
  rw [hrun, Oper.upon_enter]
  refine hc.mono ?_
  intro e w' hR
  obtain ⟨v, rfl, hk⟩ := h e w' hR
  exact hk
theorem enter_run {ev : Operand → Value} {g : Option (Nat × Bool)} {d : Option Tmp} {fn : FuncId} {xs : Array Operand} {ts : Array TypeId} {ty : TypeId} {z : World} (args : Array Value) (hf : ev (.func fn) = .func (.func fn) #[] #[]) (ha : xs.map ev = args) (hE : ∀ u : World, (callFunc fn args).run Tryd.prog u = .ok (.enter fn args) u) :
    (execOp ev ⟨d, Op.call { callee := Callee.value (Operand.func fn), args := xs, argTypes := ts }, ty, "", #[], g⟩).run Tryd.prog z = .ok (.enter fn args) z := by
  unfold execOp
  simp only [resolve, hf, ha]
  simp [invoke, Deferred.ofValue, hE]
end
end Go.Proofs.YtoepemgflbmlcaaDoor

/- The document's Cmd: its region that draws its order (laid by scripts/mkon.py). -/
namespace Go.Proofs.YtoepemgflbmlcaaDoor
set_option linter.unusedVariables false
set_option linter.unusedSimpArgs false
open Go.RowKit Go.Deep

theorem xb_a3 (v x v9 : Value) (ev : Operand → Value) (z z2 : World) (e1 : ev (.tmp 36) = v) (e2 : ev (.tmp 38) = x) (hr : (Builtin.append_ #[28, 9] 28 #[v, x]).run Tryd.prog z = .ok v9 z2) : (execOp ev ⟨some 39, Op.call { callee := Callee.builtin Builtin.append, args := #[Operand.tmp 36, Operand.tmp 38], argTypes := #[28, 9] }, 28, "", #[], none⟩).run Tryd.prog z = .ok (.value v9) z2 := by
  unfold execOp
  simp only [resolve, invoke, builtin, Sem.run_bind, Sem.run_pure, Result.andThen_ok, List.map_toArray, List.map_cons, List.map_nil, e1, e2, hr]
theorem xb_a8 (v x v9 : Value) (ev : Operand → Value) (z z2 : World) (e1 : ev (.tmp 39) = v) (e2 : ev (.tmp 43) = x) (hr : (Builtin.append_ #[28, 28] 28 #[v, x]).run Tryd.prog z = .ok v9 z2) : (execOp ev ⟨some 44, Op.call { callee := Callee.builtin Builtin.append, args := #[Operand.tmp 39, Operand.tmp 43], argTypes := #[28, 28] }, 28, "", #[], none⟩).run Tryd.prog z = .ok (.value v9) z2 := by
  unfold execOp
  simp only [resolve, invoke, builtin, Sem.run_bind, Sem.run_pure, Result.andThen_ok, List.map_toArray, List.map_cons, List.map_nil, e1, e2, hr]
theorem run_append_key (w : World) (base : Nat) (v : Value) (xs : List Nat) (hown : Ow w base v xs) (k : ByteArray) (hlen : xs.length + k.size ≤ 140737488355328) (hbase : base ≤ w.heap.size) :
    ∃ v' w', (Builtin.append_ #[28, 9] 28 #[v, .string k]).run Tryd.prog w = .ok v' w' ∧ Ow w' base v' (xs ++ keyB k) ∧ Kp (fun b => v.ownBlock = some b) w w' ∧ (v'.ownBlock = v.ownBlock ∨ v'.ownBlock = some w.heap.size) := by
  obtain ⟨ti, hi0, hz0, hz1, hz2⟩ := info_parts info5
  obtain ⟨v', w', h1, h2, h3, h4⟩ := run_append_own_src (P := Tryd.prog) w base 28 9 28 5 ti (.int .u8 0) 1 1 Tryd.underlying28 hi0 hz0 hz1 hz2 rfl (by decide) v xs.length (vl xs) hown _ k.size (byteCells k) (Src.ofString w Tryd.underlying9 k) (by unfold maxLen; omega) (by omega) hbase
  refine ⟨v', w', h1, ?_, grownBy_kp h3, h4⟩
  unfold Ow
  rw [List.length_append, keyB_len, vl_append]
  rw [vl_key] at h2
  exact h2
theorem run_append_bytes (w : World) (base : Nat) (v : Value) (xs : List Nat) (hown : Ow w base v xs) (p : Option Addr) (m c : Nat) (ys : List Nat) (hr : Rb w p m ys) (hlen : xs.length + m ≤ 140737488355328) (hbase : base ≤ w.heap.size) :
    ∃ v' w', (Builtin.append_ #[28, 28] 28 #[v, .slice p m c]).run Tryd.prog w = .ok v' w' ∧ Ow w' base v' (xs ++ ys) ∧ Kp (fun b => v.ownBlock = some b) w w' ∧ (v'.ownBlock = v.ownBlock ∨ v'.ownBlock = some w.heap.size) := by
  obtain ⟨ti, hi0, hz0, hz1, hz2⟩ := info_parts info5
  obtain ⟨v', w', h1, h2, h3, h4⟩ := run_append_own_src (P := Tryd.prog) w base 28 28 28 5 ti (.int .u8 0) 1 1 Tryd.underlying28 hi0 hz0 hz1 hz2 rfl (by decide) v xs.length (vl xs) hown _ m (vl ys) (hr.src c) (by unfold maxLen; omega) (by omega) hbase
  refine ⟨v', w', h1, ?_, grownBy_kp h3, h4⟩
  have e : (xs ++ ys).length = xs.length + m := by rw [List.length_append, hr.len]
  unfold Ow
  rw [e, vl_append]
  exact h2
theorem xb_as (v : Value) (ev : Operand → Value) (z : World) (e1 : ev (.tmp 44) = v) : (execOp ev ⟨some 4, Op.assign (Operand.tmp 44), 28, "", #[], none⟩).run Tryd.prog z = .ok (.value v) z := by
  go_simp
theorem xb_0 (g : Nat) (key : ByteArray) (p : Option Addr) (n cap base : Nat) (v : Value) (xs : List Nat) (ev : Operand → Value) (z : World) (ec : ∀ c, ev (.const c) = c) (e4 : ev (.tmp 4) = v) (hS : z.cell? ⟨g, 2, none⟩ = some (.string key) ∧ z.cell? ⟨g, 11, none⟩ = some (.slice p n cap)) : (execOp ev ⟨some 36, Op.move (Operand.tmp 4), 28, "", #[], none⟩).run Tryd.prog z = .ok (.value (v)) z := by
  obtain ⟨hc2, hc11⟩ := hS
  go_simp
theorem xb_1 (g : Nat) (key : ByteArray) (p : Option Addr) (n cap base : Nat) (v : Value) (xs : List Nat) (ev : Operand → Value) (z : World) (ec : ∀ c, ev (.const c) = c) (e1 : ev (.tmp 1) = .pointer (some ⟨g, 0, none⟩)) (hS : z.cell? ⟨g, 2, none⟩ = some (.string key) ∧ z.cell? ⟨g, 11, none⟩ = some (.slice p n cap)) : (execOp ev ⟨some 37, Op.fieldAddr 27 (Operand.tmp 1) 2, 0, "", #[], none⟩).run Tryd.prog z = .ok (.value (.pointer (some ⟨g, 2, none⟩))) z := by
  obtain ⟨hc2, hc11⟩ := hS
  go_simp
theorem xb_2 (g : Nat) (key : ByteArray) (p : Option Addr) (n cap base : Nat) (v : Value) (xs : List Nat) (ev : Operand → Value) (z : World) (ec : ∀ c, ev (.const c) = c) (e37 : ev (.tmp 37) = .pointer (some ⟨g, 2, none⟩)) (hS : z.cell? ⟨g, 2, none⟩ = some (.string key) ∧ z.cell? ⟨g, 11, none⟩ = some (.slice p n cap)) : (execOp ev ⟨some 38, Op.load 9 (Operand.tmp 37), 9, "", #[], none⟩).run Tryd.prog z = .ok (.value (.string key)) z := by
  obtain ⟨hc2, hc11⟩ := hS
  go_simp
theorem xb_4 (g : Nat) (key : ByteArray) (p : Option Addr) (n cap base : Nat) (v : Value) (xs : List Nat) (ev : Operand → Value) (z : World) (ec : ∀ c, ev (.const c) = c) (e1 : ev (.tmp 1) = .pointer (some ⟨g, 0, none⟩)) (hS : z.cell? ⟨g, 2, none⟩ = some (.string key) ∧ z.cell? ⟨g, 11, none⟩ = some (.slice p n cap)) : (execOp ev ⟨some 40, Op.fieldAddr 27 (Operand.tmp 1) 10, 0, "", #[], none⟩).run Tryd.prog z = .ok (.value (.pointer (some ⟨g, 11, none⟩))) z := by
  obtain ⟨hc2, hc11⟩ := hS
  go_simp
theorem xb_5 (g : Nat) (key : ByteArray) (p : Option Addr) (n cap base : Nat) (v : Value) (xs : List Nat) (ev : Operand → Value) (z : World) (ec : ∀ c, ev (.const c) = c) (e40 : ev (.tmp 40) = .pointer (some ⟨g, 11, none⟩)) (hS : z.cell? ⟨g, 2, none⟩ = some (.string key) ∧ z.cell? ⟨g, 11, none⟩ = some (.slice p n cap)) : (execOp ev ⟨some 41, Op.load 25 (Operand.tmp 40), 25, "", #[], none⟩).run Tryd.prog z = .ok (.value (.slice p n cap)) z := by
  obtain ⟨hc2, hc11⟩ := hS
  go_simp
theorem xb_6 (g : Nat) (key : ByteArray) (p : Option Addr) (n cap base : Nat) (v : Value) (xs : List Nat) (ev : Operand → Value) (z : World) (ec : ∀ c, ev (.const c) = c) (e41 : ev (.tmp 41) = .slice p n cap) (hS : z.cell? ⟨g, 2, none⟩ = some (.string key) ∧ z.cell? ⟨g, 11, none⟩ = some (.slice p n cap)) : (execOp ev ⟨some 42, Op.call { callee := Callee.builtin Builtin.len, args := #[Operand.tmp 41], argTypes := #[25] }, 3, "", #[], none⟩).run Tryd.prog z = .ok (.value (.int .i64 (n : Int))) z := by
  obtain ⟨hc2, hc11⟩ := hS
  go_simp
set_option maxRecDepth 100000 in
theorem xb_7 (g : Nat) (key : ByteArray) (p : Option Addr) (n cap base : Nat) (v : Value) (xs : List Nat) (ev : Operand → Value) (z : World) (ec : ∀ c, ev (.const c) = c) (ef : ev (.func 27) = .func (.func 27) #[] #[]) (e42 : ev (.tmp 42) = .int .i64 (n : Int)) : (execOp ev ⟨some 43, Op.call { callee := Callee.value (Operand.func 27), args := #[Operand.tmp 42], argTypes := #[3] }, 28, "", #[], none⟩).run Tryd.prog z = .ok (.enter 27 #[.int .i64 (n : Int)]) z :=
  enter_run _ ef (by simp only [List.map_toArray, List.map_cons, List.map_nil, ec, e42]) (fun _ => by rfl)
structure xbR (ops : Array Oper) : Prop where
  size : ops.size = 10
  sel : Region.noSelect ops = true
  o0 : (ops[0]?).map bare = some ⟨some 36, Op.move (Operand.tmp 4), 28, "", #[], none⟩
  o1 : (ops[1]?).map bare = some ⟨some 37, Op.fieldAddr 27 (Operand.tmp 1) 2, 0, "", #[], none⟩
  o2 : (ops[2]?).map bare = some ⟨some 38, Op.load 9 (Operand.tmp 37), 9, "", #[], none⟩
  o3 : (ops[3]?).map bare = some ⟨some 39, Op.call { callee := Callee.builtin Builtin.append, args := #[Operand.tmp 36, Operand.tmp 38], argTypes := #[28, 9] }, 28, "", #[], none⟩
  o4 : (ops[4]?).map bare = some ⟨some 40, Op.fieldAddr 27 (Operand.tmp 1) 10, 0, "", #[], none⟩
  o5 : (ops[5]?).map bare = some ⟨some 41, Op.load 25 (Operand.tmp 40), 25, "", #[], none⟩
  o6 : (ops[6]?).map bare = some ⟨some 42, Op.call { callee := Callee.builtin Builtin.len, args := #[Operand.tmp 41], argTypes := #[25] }, 3, "", #[], none⟩
  o7 : (ops[7]?).map bare = some ⟨some 43, Op.call { callee := Callee.value (Operand.func 27), args := #[Operand.tmp 42], argTypes := #[3] }, 28, "", #[], none⟩
  o8 : (ops[8]?).map bare = some ⟨some 44, Op.call { callee := Callee.builtin Builtin.append, args := #[Operand.tmp 39, Operand.tmp 43], argTypes := #[28, 28] }, 28, "", #[], none⟩
  o9 : (ops[9]?).map bare = some ⟨some 4, Op.assign (Operand.tmp 44), 28, "", #[], none⟩
  may0 : takeB .any ops [0, 1, 2, 4, 5, 6] (Array.replicate 10 false) = true
  r3 : Region.ready .any ops (mark [0, 1, 2, 4, 5, 6] (Array.replicate 10 false)) = [3]
  r7 : Region.ready .any ops ((mark [0, 1, 2, 4, 5, 6] (Array.replicate 10 false)).setIfInBounds 3 true) = [7]
  r8 : Region.ready .any ops (((mark [0, 1, 2, 4, 5, 6] (Array.replicate 10 false)).setIfInBounds 3 true).setIfInBounds 7 true) = [8]
  r9 : Region.ready .any ops ((((mark [0, 1, 2, 4, 5, 6] (Array.replicate 10 false)).setIfInBounds 3 true).setIfInBounds 7 true).setIfInBounds 8 true) = [9]
  fin : Region.ready .any ops (((((mark [0, 1, 2, 4, 5, 6] (Array.replicate 10 false)).setIfInBounds 3 true).setIfInBounds 7 true).setIfInBounds 8 true).setIfInBounds 9 true) = []

set_option maxRecDepth 100000 in
set_option maxHeartbeats 3200000 in
theorem xb_region {ops : Array Oper} {rid : Nat} {Q : Exit → Act → World → Prop} {a : Act} {y : World} (R : xbR ops) (g : Nat) (key : ByteArray) (p : Option Addr) (n cap base : Nat) (v : Value) (xs : List Nat)
    (hQ : ∀ d v c a w, Q (.panic c) (a.put d v) w → Q (.panic c) a w) (hsz : a.tmps.size = 50) (e4 : a.eval (.tmp 4) = v) (e1 : a.eval (.tmp 1) = .pointer (some ⟨g, 0, none⟩)) (hS : y.cell? ⟨g, 2, none⟩ = some (.string key) ∧ y.cell? ⟨g, 11, none⟩ = some (.slice p n cap)) (hown : Ow y base v xs) (hg : g < base) (hbase : base ≤ y.heap.size) (hlen : xs.length ≤ 100000) (hk : key.size ≤ 8) (hn9 : n ≤ 255)
    (hK : ∀ v3 v7 v8 w8, Ow w8 base v8 (xs ++ keyB key ++ numB n) → Kp (fun b => base ≤ b) y w8 → base ≤ w8.heap.size → Q .normal ((((((((((a.put (some 36) (v)).put (some 37) (.pointer (some ⟨g, 2, none⟩))).put (some 38) (.string key)).put (some 40) (.pointer (some ⟨g, 11, none⟩))).put (some 41) (.slice p n cap)).put (some 42) (.int .i64 (n : Int))).put (some 39) (v3)).put (some 43) (v7)).put (some 44) (v8)).put (some 4) (v8)) w8) : (Code.region rid ops true).wp Tryd.prog Q a y := by
  have HR : Hid (xbR ops) := R
  have hdf : a.defers = a.defers := rfl
  have hS0 : y.drew.cell? ⟨g, 2, none⟩ = some (.string key) ∧ y.drew.cell? ⟨g, 11, none⟩ = some (.slice p n cap) := hS
  have hk0 : Kp (fun _ => False) y y.drew := (Kp.refl _ _).drew
  have hown0 : Ow y.drew base v xs := ownsRow_keep hown hk0 (fun _ _ => fun e => e)
  obtain ⟨v3, w3, hap3, o3, k3, b3⟩ := run_append_key y.drew base v xs hown0 key (by omega) hbase
  have hgv : v.ownBlock ≠ some g := fun e => by have := (ownBlock_lt hown e).1; omega
  have hS3 : w3.cell? ⟨g, 2, none⟩ = some (.string key) ∧ w3.cell? ⟨g, 11, none⟩ = some (.slice p n cap) := ⟨k3.cellv hS.1 hgv, k3.cellv hS.2 hgv⟩
  refine wp_region_held_drew (S := (fun z : World => z.cell? ⟨g, 2, none⟩ = some (.string key) ∧ z.cell? ⟨g, 11, none⟩ = some (.slice p n cap))) (by kernel_rfl) (hS0) (fun hHeld => ?_)
  rw [R.size]
  clear R
  refine wpAnyH_takes HR.out.sel hQ hHeld [0, 1, 2, 4, 5, 6] 4 _ _ HR.out.may0 ?_
  refine wpTake_stepE ⟨some 36, Op.move (Operand.tmp 4), 28, "", #[], none⟩ 36 (v) HR.out.o0 rfl (by rw [hsz]; decide) (wanted_none rfl) (fun z hS => xb_0 g key p n cap base v xs _ z (fun _ => rfl) e4 hS) ?_
  intro a1 ha1 s1 f1 n1 k1
  replace hsz := s1.trans hsz
  replace hdf := f1.trans hdf
  replace e1 := (k1 1 (by decide)).trans e1
  have e36 := n1
  clear s1 f1 n1 k1
  refine wpTake_stepE ⟨some 37, Op.fieldAddr 27 (Operand.tmp 1) 2, 0, "", #[], none⟩ 37 (.pointer (some ⟨g, 2, none⟩)) HR.out.o1 rfl (by rw [hsz]; decide) (wanted_none rfl) (fun z hS => xb_1 g key p n cap base v xs _ z (fun _ => rfl) e1 hS) ?_
  intro a2 ha2 s1 f1 n1 k1
  replace hsz := s1.trans hsz
  replace hdf := f1.trans hdf
  replace e1 := (k1 1 (by decide)).trans e1
  replace e36 := (k1 36 (by decide)).trans e36
  have e37 := n1
  clear s1 f1 n1 k1
  refine wpTake_stepE ⟨some 38, Op.load 9 (Operand.tmp 37), 9, "", #[], none⟩ 38 (.string key) HR.out.o2 rfl (by rw [hsz]; decide) (wanted_none rfl) (fun z hS => xb_2 g key p n cap base v xs _ z (fun _ => rfl) e37 hS) ?_
  intro a3 ha3 s1 f1 n1 k1
  replace hsz := s1.trans hsz
  replace hdf := f1.trans hdf
  replace e1 := (k1 1 (by decide)).trans e1
  replace e36 := (k1 36 (by decide)).trans e36
  have e38 := n1
  clear s1 f1 n1 k1
  refine wpTake_stepE ⟨some 40, Op.fieldAddr 27 (Operand.tmp 1) 10, 0, "", #[], none⟩ 40 (.pointer (some ⟨g, 11, none⟩)) HR.out.o4 rfl (by rw [hsz]; decide) (wanted_none rfl) (fun z hS => xb_4 g key p n cap base v xs _ z (fun _ => rfl) e1 hS) ?_
  intro a4 ha4 s1 f1 n1 k1
  replace hsz := s1.trans hsz
  replace hdf := f1.trans hdf
  replace e36 := (k1 36 (by decide)).trans e36
  replace e38 := (k1 38 (by decide)).trans e38
  have e40 := n1
  clear s1 f1 n1 k1
  refine wpTake_stepE ⟨some 41, Op.load 25 (Operand.tmp 40), 25, "", #[], none⟩ 41 (.slice p n cap) HR.out.o5 rfl (by rw [hsz]; decide) (wanted_none rfl) (fun z hS => xb_5 g key p n cap base v xs _ z (fun _ => rfl) e40 hS) ?_
  intro a5 ha5 s1 f1 n1 k1
  replace hsz := s1.trans hsz
  replace hdf := f1.trans hdf
  replace e36 := (k1 36 (by decide)).trans e36
  replace e38 := (k1 38 (by decide)).trans e38
  have e41 := n1
  clear s1 f1 n1 k1
  refine wpTake_stepE ⟨some 42, Op.call { callee := Callee.builtin Builtin.len, args := #[Operand.tmp 41], argTypes := #[25] }, 3, "", #[], none⟩ 42 (.int .i64 (n : Int)) HR.out.o6 rfl (by rw [hsz]; decide) (wanted_none rfl) (fun z hS => xb_6 g key p n cap base v xs _ z (fun _ => rfl) e41 hS) ?_
  intro a6 ha6 s1 f1 n1 k1
  replace hsz := s1.trans hsz
  replace hdf := f1.trans hdf
  replace e36 := (k1 36 (by decide)).trans e36
  replace e38 := (k1 38 (by decide)).trans e38
  have e42 := n1
  clear s1 f1 n1 k1
  refine wpTake_nil ?_
  refine wpAnyH_run ⟨some 39, Op.call { callee := Callee.builtin Builtin.append, args := #[Operand.tmp 36, Operand.tmp 38], argTypes := #[28, 9] }, 28, "", #[], none⟩ _ (v3) w3 HR.out.r3 HR.out.o3 rfl rfl (xb_a3 _ _ _ _ _ _ e36 e38 hap3) (hS3) ?_
  replace hHeld := hS3
  obtain ⟨s1, f1, n1, k1⟩ := act_put a6 39 (v3) (show 39 < _ by rw [hsz]; decide)
  obtain ⟨a7, ha7⟩ : ∃ x, x = Act.put a6 (some 39) (v3) := ⟨_, rfl⟩
  rw [← ha7] at s1 f1 n1 k1 ⊢
  replace hsz := s1.trans hsz
  replace hdf := f1.trans hdf
  replace e42 := (k1 42 (by decide)).trans e42
  have e39 := n1
  clear s1 f1 n1 k1
  refine wpAnyH_one ⟨some 43, Op.call { callee := Callee.value (Operand.func 27), args := #[Operand.tmp 42], argTypes := #[3] }, 28, "", #[], none⟩ HR.out.r7 HR.out.o7 rfl (fun K' hK' => ?_)
  refine wp_enter (xb_7 g key p n cap base v xs _ _ (fun _ => rfl) rfl e42) (rnum_ok n (by omega) w3) ?_
  rintro e9 w9 ⟨v7, rfl, o7, k7⟩
  have hS7 : w9.cell? ⟨g, 2, none⟩ = some (.string key) ∧ w9.cell? ⟨g, 11, none⟩ = some (.slice p n cap) := ⟨k7.cellv hS3.1 (fun e => e), k7.cellv hS3.2 (fun e => e)⟩
  have o3b : Ow w9 base v3 (xs ++ keyB key) := ownsRow_keep o3 k7 (fun _ _ e => e)
  have hn63 : n < 9223372036854775808 := by omega
  obtain ⟨p7, c7, hv7, hrb7⟩ := o7.src (numB_byte hn63)
  have hl7 := numB_len hn63
  have kl := keyB_len key
  have k03 : base ≤ w9.heap.size := Nat.le_trans hbase (Nat.le_trans k3.size k7.size)
  obtain ⟨v8, w8, hap8, o8, k8, b8⟩ := run_append_bytes w9 base v3 (xs ++ keyB key) o3b p7 (numB n).length c7 (numB n) hrb7 (by rw [List.length_append]; omega) k03
  rw [← hv7] at hap8
  have hgv3 : v3.ownBlock ≠ some g := fun e => by have := (ownBlock_lt o3 e).1; omega
  have hS8 : w8.cell? ⟨g, 2, none⟩ = some (.string key) ∧ w8.cell? ⟨g, 11, none⟩ = some (.slice p n cap) := ⟨k8.cellv hS7.1 hgv3, k8.cellv hS7.2 hgv3⟩
  refine ⟨_, rfl, hK'.out _ _ (hS7) ?_⟩
  replace hHeld := hS7
  clear hK' K'
  show wpAnyH _ _ _ _ _ _ _ (Act.put a7 (some 43) (v7)) _
  obtain ⟨s1, f1, n1, k1⟩ := act_put a7 43 (v7) (show 43 < _ by rw [hsz]; decide)
  obtain ⟨a8, ha8⟩ : ∃ x, x = Act.put a7 (some 43) (v7) := ⟨_, rfl⟩
  rw [← ha8] at s1 f1 n1 k1 ⊢
  replace hsz := s1.trans hsz
  replace hdf := f1.trans hdf
  replace e39 := (k1 39 (by decide)).trans e39
  have e43 := n1
  clear s1 f1 n1 k1
  refine wpAnyH_run ⟨some 44, Op.call { callee := Callee.builtin Builtin.append, args := #[Operand.tmp 39, Operand.tmp 43], argTypes := #[28, 28] }, 28, "", #[], none⟩ _ (v8) w8 HR.out.r8 HR.out.o8 rfl rfl (xb_a8 _ _ _ _ _ _ e39 e43 hap8) (hS8) ?_
  replace hHeld := hS8
  obtain ⟨s1, f1, n1, k1⟩ := act_put a8 44 (v8) (show 44 < _ by rw [hsz]; decide)
  obtain ⟨a9, ha9⟩ : ∃ x, x = Act.put a8 (some 44) (v8) := ⟨_, rfl⟩
  rw [← ha9] at s1 f1 n1 k1 ⊢
  replace hsz := s1.trans hsz
  replace hdf := f1.trans hdf
  have e44 := n1
  clear s1 f1 n1 k1
  refine wpAnyH_run ⟨some 4, Op.assign (Operand.tmp 44), 28, "", #[], none⟩ _ (v8) w8 HR.out.r9 HR.out.o9 rfl rfl (xb_as _ _ _ e44) (hS8) ?_
  replace hHeld := hS8
  obtain ⟨s1, f1, n1, k1⟩ := act_put a9 4 (v8) (show 4 < _ by rw [hsz]; decide)
  obtain ⟨a10, ha10⟩ : ∃ x, x = Act.put a9 (some 4) (v8) := ⟨_, rfl⟩
  rw [← ha10] at s1 f1 n1 k1 ⊢
  replace hsz := s1.trans hsz
  replace hdf := f1.trans hdf
  clear s1 f1 n1 k1
  refine wpAnyH_done HR.out.fin ?_ _
  rw [ha10, ha9, ha8, ha7, ha6, ha5, ha4, ha3, ha2, ha1]
  exact hK v3 v7 v8 w8 o8 (((hk0.mono (fun _ _ e => e.elim)).trans (k3.mono (fun b _ e => (ownBlock_lt hown0 e).1)) (fun _ _ e => e)).trans ((k7.mono (S' := fun b => base ≤ b) (fun _ _ e => e.elim)).trans (k8.mono (fun b _ e => (ownBlock_lt o3b e).1)) (fun _ _ e => e)) (fun _ _ e => e)) (Nat.le_trans k03 k8.size)
-- R: ⟨by kernel_rfl, by kernel_rfl, by kernel_rfl, by kernel_rfl, by kernel_rfl, by kernel_rfl, by kernel_rfl, by kernel_rfl, by kernel_rfl, by kernel_rfl, by kernel_rfl, by kernel_rfl, by kernel_rfl, by kernel_rfl, by kernel_rfl, by kernel_rfl, by kernel_rfl, by kernel_rfl⟩

end Go.Proofs.YtoepemgflbmlcaaDoor
