/- The drawn region of order (laid by scripts/mkvz.py). -/
import Derived.Test.YtbbgplnenbkfeaaVy
namespace Go.Proofs.Ytbbgplnenbkfeaa
set_option linter.unusedVariables false
set_option linter.unusedSimpArgs false
open Go.RowKit Go.Deep Go.Maps

theorem wpAnyH_runG {P : Program} {md : Region.Mode} {ops : Array Oper} {Q : Exit → Act → World → Prop} {S : World → Prop} {i fuel : Nat} {listed : Array Bool} {a : Act} {w : World} (o : Oper) (d : Option Tmp) (v : Value) (w1 : World) (hr : Region.ready md ops listed = [i]) (ho : (ops[i]?).map bare = some o) (hg : Region.wanted o (yielded ops a.tmps) = true) (hd : o.dst = d)
    (hrun : (execOp a.eval o).run P w = .ok (.value v) w1) (hS : S w1) (h : wpAnyH P md ops Q S fuel (listed.setIfInBounds i true) (a.put d v) w1) : wpAnyH P md ops Q S (fuel + 1) listed a w := by
  refine wpAnyH_oneG o hr ho hg (fun K' hK => ?_)
  unfold Oper.wp
  rw [hrun, Oper.upon_value, hd]
  exact hK.out _ _ hS h
theorem or_bs (ev : Operand → Value) (z : World) : (execOp ev ⟨some 72, Op.buildSlice 44 0 #[], 44, "", #[], some (1, true)⟩).run Try.prog z = .ok (.value (.slice (some ⟨z.heap.size, 0, none⟩) 0 0)) (z.alloc (.cells #[] 51)) := by go_simp
theorem or_ap6 (v y v2 : Value) (ev : Operand → Value) (z z2 : World) (ea : ev (.tmp 72) = v) (eb : ev (.tmp 75) = y) (hr : (Builtin.append_ #[44, 44] 44 #[v, y]).run Try.prog z = .ok v2 z2) : (execOp ev ⟨some 76, Op.call { callee := Callee.builtin Builtin.append, args := #[Operand.tmp 72, Operand.tmp 75], argTypes := #[44, 44] }, 44, "", #[], some (1, true)⟩).run Try.prog z = .ok (.value v2) z2 := by
  unfold execOp
  simp only [resolve, invoke, builtin, Sem.run_bind, Sem.run_pure, Result.andThen_ok, List.map_toArray, List.map_cons, List.map_nil, ea, eb, hr]
theorem or_ap11 (v y v2 : Value) (ev : Operand → Value) (z z2 : World) (ea : ev (.tmp 76) = v) (eb : ev (.tmp 80) = y) (hr : (Builtin.append_ #[44, 44] 44 #[v, y]).run Try.prog z = .ok v2 z2) : (execOp ev ⟨some 81, Op.call { callee := Callee.builtin Builtin.append, args := #[Operand.tmp 76, Operand.tmp 80], argTypes := #[44, 44] }, 44, "", #[], some (1, true)⟩).run Try.prog z = .ok (.value v2) z2 := by
  unfold execOp
  simp only [resolve, invoke, builtin, Sem.run_bind, Sem.run_pure, Result.andThen_ok, List.map_toArray, List.map_cons, List.map_nil, ea, eb, hr]
theorem orr_0 (b1 o1 n c i bs : Nat) (hi : (i : Int) < (n : Int)) (hc : n ≤ c) (hn9 : (n : Int) ≤ 900) (nn : Int) (nv : Value) (v1 v2 : Value) (qr : Option Addr) (hqr : qr = if c = i + 1 then some ⟨b1, o1, none⟩ else some ⟨b1, o1 + (i + 1) * 7, none⟩) (rr : Bool) (ev : Operand → Value) (z : World) (ec : ∀ c, ev (.const c) = c) (e14 : ev (.tmp 14) = .bool true) (hS : (loadVar 55 ⟨bs, 0, none⟩).run Try.prog z = .ok (.agg #[.int .i64 nn, nv]) z) : (execOp ev ⟨some 70, Op.move (Operand.tmp 14), 4, "", #[], none⟩).run Try.prog z = .ok (.value (.bool true)) z := by
  obtain s1 := hS
  go_simp
theorem orr_1 (b1 o1 n c i bs : Nat) (hi : (i : Int) < (n : Int)) (hc : n ≤ c) (hn9 : (n : Int) ≤ 900) (nn : Int) (nv : Value) (v1 v2 : Value) (qr : Option Addr) (hqr : qr = if c = i + 1 then some ⟨b1, o1, none⟩ else some ⟨b1, o1 + (i + 1) * 7, none⟩) (rr : Bool) (ev : Operand → Value) (z : World) (ec : ∀ c, ev (.const c) = c) (e70 : ev (.tmp 70) = .bool true) (hS : (loadVar 55 ⟨bs, 0, none⟩).run Try.prog z = .ok (.agg #[.int .i64 nn, nv]) z) : (execOp ev ⟨some 71, Op.move (Operand.tmp 70), 4, "", #[], none⟩).run Try.prog z = .ok (.value (.bool true)) z := by
  obtain s1 := hS
  go_simp
theorem orr_3 (b1 o1 n c i bs : Nat) (hi : (i : Int) < (n : Int)) (hc : n ≤ c) (hn9 : (n : Int) ≤ 900) (nn : Int) (nv : Value) (v1 v2 : Value) (qr : Option Addr) (hqr : qr = if c = i + 1 then some ⟨b1, o1, none⟩ else some ⟨b1, o1 + (i + 1) * 7, none⟩) (rr : Bool) (ev : Operand → Value) (z : World) (ec : ∀ c, ev (.const c) = c) (e0 : ev (.tmp 0) = .slice (some ⟨b1, o1, none⟩) n c) (hS : (loadVar 55 ⟨bs, 0, none⟩).run Try.prog z = .ok (.agg #[.int .i64 nn, nv]) z) : (execOp ev ⟨some 73, Op.move (Operand.tmp 0), 44, "", #[], some (1, true)⟩).run Try.prog z = .ok (.value (.slice (some ⟨b1, o1, none⟩) n c)) z := by
  obtain s1 := hS
  go_simp
theorem orr_4 (b1 o1 n c i bs : Nat) (hi : (i : Int) < (n : Int)) (hc : n ≤ c) (hn9 : (n : Int) ≤ 900) (nn : Int) (nv : Value) (v1 v2 : Value) (qr : Option Addr) (hqr : qr = if c = i + 1 then some ⟨b1, o1, none⟩ else some ⟨b1, o1 + (i + 1) * 7, none⟩) (rr : Bool) (ev : Operand → Value) (z : World) (ec : ∀ c, ev (.const c) = c) (e8 : ev (.tmp 8) = .int .i64 (i : Int)) (hS : (loadVar 55 ⟨bs, 0, none⟩).run Try.prog z = .ok (.agg #[.int .i64 nn, nv]) z) : (execOp ev ⟨some 74, Op.move (Operand.tmp 8), 3, "", #[], some (1, true)⟩).run Try.prog z = .ok (.value (.int .i64 (i : Int))) z := by
  obtain s1 := hS
  go_simp
theorem orr_5 (b1 o1 n c i bs : Nat) (hi : (i : Int) < (n : Int)) (hc : n ≤ c) (hn9 : (n : Int) ≤ 900) (nn : Int) (nv : Value) (v1 v2 : Value) (qr : Option Addr) (hqr : qr = if c = i + 1 then some ⟨b1, o1, none⟩ else some ⟨b1, o1 + (i + 1) * 7, none⟩) (rr : Bool) (ev : Operand → Value) (z : World) (ec : ∀ c, ev (.const c) = c) (e73 : ev (.tmp 73) = .slice (some ⟨b1, o1, none⟩) n c) (e74 : ev (.tmp 74) = .int .i64 (i : Int)) (hS : (loadVar 55 ⟨bs, 0, none⟩).run Try.prog z = .ok (.agg #[.int .i64 nn, nv]) z) : (execOp ev ⟨some 75, Op.slice 44 (Operand.tmp 73) none (some (Operand.tmp 74)) none, 44, "", #[], some (1, true)⟩).run Try.prog z = .ok (.value (.slice (some ⟨b1, o1, none⟩) i c)) z := by
  clear hS hqr
  go_simp
  intro h
  omega
theorem orr_7 (b1 o1 n c i bs : Nat) (hi : (i : Int) < (n : Int)) (hc : n ≤ c) (hn9 : (n : Int) ≤ 900) (nn : Int) (nv : Value) (v1 v2 : Value) (qr : Option Addr) (hqr : qr = if c = i + 1 then some ⟨b1, o1, none⟩ else some ⟨b1, o1 + (i + 1) * 7, none⟩) (rr : Bool) (ev : Operand → Value) (z : World) (ec : ∀ c, ev (.const c) = c) (e0 : ev (.tmp 0) = .slice (some ⟨b1, o1, none⟩) n c) (hS : (loadVar 55 ⟨bs, 0, none⟩).run Try.prog z = .ok (.agg #[.int .i64 nn, nv]) z) : (execOp ev ⟨some 77, Op.move (Operand.tmp 0), 44, "", #[], some (1, true)⟩).run Try.prog z = .ok (.value (.slice (some ⟨b1, o1, none⟩) n c)) z := by
  obtain s1 := hS
  go_simp
theorem orr_8 (b1 o1 n c i bs : Nat) (hi : (i : Int) < (n : Int)) (hc : n ≤ c) (hn9 : (n : Int) ≤ 900) (nn : Int) (nv : Value) (v1 v2 : Value) (qr : Option Addr) (hqr : qr = if c = i + 1 then some ⟨b1, o1, none⟩ else some ⟨b1, o1 + (i + 1) * 7, none⟩) (rr : Bool) (ev : Operand → Value) (z : World) (ec : ∀ c, ev (.const c) = c) (e8 : ev (.tmp 8) = .int .i64 (i : Int)) (hS : (loadVar 55 ⟨bs, 0, none⟩).run Try.prog z = .ok (.agg #[.int .i64 nn, nv]) z) : (execOp ev ⟨some 78, Op.move (Operand.tmp 8), 3, "", #[], some (1, true)⟩).run Try.prog z = .ok (.value (.int .i64 (i : Int))) z := by
  obtain s1 := hS
  go_simp
theorem orr_9 (b1 o1 n c i bs : Nat) (hi : (i : Int) < (n : Int)) (hc : n ≤ c) (hn9 : (n : Int) ≤ 900) (nn : Int) (nv : Value) (v1 v2 : Value) (qr : Option Addr) (hqr : qr = if c = i + 1 then some ⟨b1, o1, none⟩ else some ⟨b1, o1 + (i + 1) * 7, none⟩) (rr : Bool) (ev : Operand → Value) (z : World) (ec : ∀ c, ev (.const c) = c) (e78 : ev (.tmp 78) = .int .i64 (i : Int)) (hS : (loadVar 55 ⟨bs, 0, none⟩).run Try.prog z = .ok (.agg #[.int .i64 nn, nv]) z) : (execOp ev ⟨some 79, Op.binOp BinOp.add 3 (Operand.tmp 78) (Operand.const (Value.int IntKind.i64 1)) 3, 3, "", #[], some (1, true)⟩).run Try.prog z = .ok (.value (.int .i64 ((i : Int) + 1))) z := by
  clear hS hqr hc
  go_simp
  unfold IntKind.wrap
  simp [IntKind.bits, IntKind.signed]
  omega
theorem orr_10 (b1 o1 n c i bs : Nat) (hi : (i : Int) < (n : Int)) (hc : n ≤ c) (hn9 : (n : Int) ≤ 900) (nn : Int) (nv : Value) (v1 v2 : Value) (qr : Option Addr) (hqr : qr = if c = i + 1 then some ⟨b1, o1, none⟩ else some ⟨b1, o1 + (i + 1) * 7, none⟩) (rr : Bool) (ev : Operand → Value) (z : World) (ec : ∀ c, ev (.const c) = c) (e77 : ev (.tmp 77) = .slice (some ⟨b1, o1, none⟩) n c) (e79 : ev (.tmp 79) = .int .i64 ((i : Int) + 1)) (hS : (loadVar 55 ⟨bs, 0, none⟩).run Try.prog z = .ok (.agg #[.int .i64 nn, nv]) z) : (execOp ev ⟨some 80, Op.slice 44 (Operand.tmp 77) (some (Operand.tmp 79)) none none, 44, "", #[], some (1, true)⟩).run Try.prog z = .ok (.value (.slice qr (n - (i + 1)) (c - (i + 1)))) z := by
  clear hS
  subst hqr
  go_simp
  intro h
  exfalso
  have h9 := h (by omega)
  omega
theorem orr_12 (b1 o1 n c i bs : Nat) (hi : (i : Int) < (n : Int)) (hc : n ≤ c) (hn9 : (n : Int) ≤ 900) (nn : Int) (nv : Value) (v1 v2 : Value) (qr : Option Addr) (hqr : qr = if c = i + 1 then some ⟨b1, o1, none⟩ else some ⟨b1, o1 + (i + 1) * 7, none⟩) (rr : Bool) (ev : Operand → Value) (z : World) (ec : ∀ c, ev (.const c) = c) (e13 : ev (.tmp 13) = .pointer (some ⟨bs, 0, none⟩)) (hS : (loadVar 55 ⟨bs, 0, none⟩).run Try.prog z = .ok (.agg #[.int .i64 nn, nv]) z) : (execOp ev ⟨some 82, Op.load 55 (Operand.tmp 13), 55, "", #[], some (1, true)⟩).run Try.prog z = .ok (.value (.agg #[.int .i64 nn, nv])) z := by
  exact exec_ldr e13 hS
set_option maxRecDepth 100000 in
theorem orr_13 (b1 o1 n c i bs : Nat) (hi : (i : Int) < (n : Int)) (hc : n ≤ c) (hn9 : (n : Int) ≤ 900) (nn : Int) (nv : Value) (v1 v2 : Value) (qr : Option Addr) (hqr : qr = if c = i + 1 then some ⟨b1, o1, none⟩ else some ⟨b1, o1 + (i + 1) * 7, none⟩) (rr : Bool) (ev : Operand → Value) (z : World) (ec : ∀ c, ev (.const c) = c) (ef : ev (.func 23) = .func (.func 23) #[] #[]) (e81 : ev (.tmp 81) = v2) (e82 : ev (.tmp 82) = .agg #[.int .i64 nn, nv]) : (execOp ev ⟨some 83, Op.call { callee := Callee.value (Operand.func 23), args := #[Operand.tmp 81, Operand.tmp 82], argTypes := #[44, 55] }, 4, "", #[], some (1, true)⟩).run Try.prog z = .ok (.enter 23 #[v2, .agg #[.int .i64 nn, nv]]) z :=
  enter_run _ ef (by simp only [List.map_toArray, List.map_cons, List.map_nil, ec, e81, e82]) (fun _ => by rfl)
theorem orr_14 (b1 o1 n c i bs : Nat) (hi : (i : Int) < (n : Int)) (hc : n ≤ c) (hn9 : (n : Int) ≤ 900) (nn : Int) (nv : Value) (v1 v2 : Value) (qr : Option Addr) (hqr : qr = if c = i + 1 then some ⟨b1, o1, none⟩ else some ⟨b1, o1 + (i + 1) * 7, none⟩) (rr : Bool) (ev : Operand → Value) (z : World) (ec : ∀ c, ev (.const c) = c) (e71 : ev (.tmp 71) = .bool true) (e83 : ev (.tmp 83) = .bool rr) (hS : (loadVar 55 ⟨bs, 0, none⟩).run Try.prog z = .ok (.agg #[.int .i64 nn, nv]) z) : (execOp ev ⟨some 84, Op.pick (Operand.tmp 71) (Operand.tmp 83) (Operand.const (Value.bool false)), 4, "", #[], none⟩).run Try.prog z = .ok (.value (.bool rr)) z := by
  clear hS hqr hc
  go_simp
structure orrR (ops : Array Oper) : Prop where
  size : ops.size = 15
  sel : Region.noSelect ops = true
  o0 : (ops[0]?).map bare = some ⟨some 70, Op.move (Operand.tmp 14), 4, "", #[], none⟩
  o1 : (ops[1]?).map bare = some ⟨some 71, Op.move (Operand.tmp 70), 4, "", #[], none⟩
  o2 : (ops[2]?).map bare = some ⟨some 72, Op.buildSlice 44 0 #[], 44, "", #[], some (1, true)⟩
  o3 : (ops[3]?).map bare = some ⟨some 73, Op.move (Operand.tmp 0), 44, "", #[], some (1, true)⟩
  o4 : (ops[4]?).map bare = some ⟨some 74, Op.move (Operand.tmp 8), 3, "", #[], some (1, true)⟩
  o5 : (ops[5]?).map bare = some ⟨some 75, Op.slice 44 (Operand.tmp 73) none (some (Operand.tmp 74)) none, 44, "", #[], some (1, true)⟩
  o6 : (ops[6]?).map bare = some ⟨some 76, Op.call { callee := Callee.builtin Builtin.append, args := #[Operand.tmp 72, Operand.tmp 75], argTypes := #[44, 44] }, 44, "", #[], some (1, true)⟩
  o7 : (ops[7]?).map bare = some ⟨some 77, Op.move (Operand.tmp 0), 44, "", #[], some (1, true)⟩
  o8 : (ops[8]?).map bare = some ⟨some 78, Op.move (Operand.tmp 8), 3, "", #[], some (1, true)⟩
  o9 : (ops[9]?).map bare = some ⟨some 79, Op.binOp BinOp.add 3 (Operand.tmp 78) (Operand.const (Value.int IntKind.i64 1)) 3, 3, "", #[], some (1, true)⟩
  o10 : (ops[10]?).map bare = some ⟨some 80, Op.slice 44 (Operand.tmp 77) (some (Operand.tmp 79)) none none, 44, "", #[], some (1, true)⟩
  o11 : (ops[11]?).map bare = some ⟨some 81, Op.call { callee := Callee.builtin Builtin.append, args := #[Operand.tmp 76, Operand.tmp 80], argTypes := #[44, 44] }, 44, "", #[], some (1, true)⟩
  o12 : (ops[12]?).map bare = some ⟨some 82, Op.load 55 (Operand.tmp 13), 55, "", #[], some (1, true)⟩
  o13 : (ops[13]?).map bare = some ⟨some 83, Op.call { callee := Callee.value (Operand.func 23), args := #[Operand.tmp 81, Operand.tmp 82], argTypes := #[44, 55] }, 4, "", #[], some (1, true)⟩
  o14 : (ops[14]?).map bare = some ⟨some 84, Op.pick (Operand.tmp 71) (Operand.tmp 83) (Operand.const (Value.bool false)), 4, "", #[], none⟩
  may0 : takeB .any ops [0, 1, 3, 4, 5, 7, 8, 9, 10, 12] (Array.replicate 15 false) = true
  r2 : Region.ready .any ops (mark [0, 1, 3, 4, 5, 7, 8, 9, 10, 12] (Array.replicate 15 false)) = [2]
  r6 : Region.ready .any ops ((mark [0, 1, 3, 4, 5, 7, 8, 9, 10, 12] (Array.replicate 15 false)).setIfInBounds 2 true) = [6]
  r11 : Region.ready .any ops (((mark [0, 1, 3, 4, 5, 7, 8, 9, 10, 12] (Array.replicate 15 false)).setIfInBounds 2 true).setIfInBounds 6 true) = [11]
  r13 : Region.ready .any ops ((((mark [0, 1, 3, 4, 5, 7, 8, 9, 10, 12] (Array.replicate 15 false)).setIfInBounds 2 true).setIfInBounds 6 true).setIfInBounds 11 true) = [13]
  may1 : takeB .any ops [14] (((((mark [0, 1, 3, 4, 5, 7, 8, 9, 10, 12] (Array.replicate 15 false)).setIfInBounds 2 true).setIfInBounds 6 true).setIfInBounds 11 true).setIfInBounds 13 true) = true
  fin : Region.ready .any ops (mark [14] (((((mark [0, 1, 3, 4, 5, 7, 8, 9, 10, 12] (Array.replicate 15 false)).setIfInBounds 2 true).setIfInBounds 6 true).setIfInBounds 11 true).setIfInBounds 13 true)) = []

set_option maxRecDepth 100000 in
set_option maxHeartbeats 3200000 in
theorem orr_region {ops : Array Oper} {id : Nat} {Q : Exit → Act → World → Prop} {a : Act} {y : World} (R : orrR ops) (b1 o1 n c i bs : Nat) (hi : (i : Int) < (n : Int)) (hc : n ≤ c) (hn9 : (n : Int) ≤ 900) (nn : Int) (nv : Value) (v1 v2 : Value) (qr : Option Addr) (hqr : qr = if c = i + 1 then some ⟨b1, o1, none⟩ else some ⟨b1, o1 + (i + 1) * 7, none⟩) (rr : Bool)
    (hQ : ∀ d v c a w, Q (.panic c) (a.put d v) w → Q (.panic c) a w) (hsz : a.tmps.size = 86) (e0 : a.eval (.tmp 0) = .slice (some ⟨b1, o1, none⟩) n c) (e8 : a.eval (.tmp 8) = .int .i64 (i : Int)) (e13 : a.eval (.tmp 13) = .pointer (some ⟨bs, 0, none⟩)) (e14 : a.eval (.tmp 14) = .bool true) (w2 w3 : World) (hS0 : (loadVar 55 ⟨bs, 0, none⟩).run Try.prog y.drew = .ok (.agg #[.int .i64 nn, nv]) y.drew) (hS1 : (loadVar 55 ⟨bs, 0, none⟩).run Try.prog (y.drew.alloc (.cells #[] 51)) = .ok (.agg #[.int .i64 nn, nv]) (y.drew.alloc (.cells #[] 51))) (hS2 : (loadVar 55 ⟨bs, 0, none⟩).run Try.prog w2 = .ok (.agg #[.int .i64 nn, nv]) w2) (hS3 : (loadVar 55 ⟨bs, 0, none⟩).run Try.prog w3 = .ok (.agg #[.int .i64 nn, nv]) w3) (hap1 : (Builtin.append_ #[44, 44] 44 #[.slice (some ⟨y.drew.heap.size, 0, none⟩) 0 0, .slice (some ⟨b1, o1, none⟩) i c]).run Try.prog (y.drew.alloc (.cells #[] 51)) = .ok v1 w2) (hap2 : (Builtin.append_ #[44, 44] 44 #[v1, .slice qr (n - (i + 1)) (c - (i + 1))]).run Try.prog w2 = .ok v2 w3) (T : World → Prop) (hcl : Calls Try.prog 23 #[v2, .agg #[.int .i64 nn, nv]] w3 fun e w9 => e = .returned (.bool rr) ∧ ((loadVar 55 ⟨bs, 0, none⟩).run Try.prog w9 = .ok (.agg #[.int .i64 nn, nv]) w9) ∧ T w9)
    (hK : ∀ w9, T w9 → Q .normal (((((((((((((((a.put (some 70) (.bool true)).put (some 71) (.bool true)).put (some 73) (.slice (some ⟨b1, o1, none⟩) n c)).put (some 74) (.int .i64 (i : Int))).put (some 75) (.slice (some ⟨b1, o1, none⟩) i c)).put (some 77) (.slice (some ⟨b1, o1, none⟩) n c)).put (some 78) (.int .i64 (i : Int))).put (some 79) (.int .i64 ((i : Int) + 1))).put (some 80) (.slice qr (n - (i + 1)) (c - (i + 1)))).put (some 82) (.agg #[.int .i64 nn, nv])).put (some 72) (.slice (some ⟨y.drew.heap.size, 0, none⟩) 0 0)).put (some 76) (v1)).put (some 81) (v2)).put (some 83) (.bool rr)).put (some 84) (.bool rr)) w9) : (Code.region id ops true).wp Try.prog Q a y := by
  have HR : Hid (orrR ops) := R
  have hdf : a.defers = a.defers := rfl
  refine wp_region_held_drew (S := (fun z : World => (loadVar 55 ⟨bs, 0, none⟩).run Try.prog z = .ok (.agg #[.int .i64 nn, nv]) z)) (by kernel_rfl) (hS0) (fun hHeld => ?_)
  rw [R.size]
  clear R
  refine wpAnyH_takes HR.out.sel hQ hHeld [0, 1, 3, 4, 5, 7, 8, 9, 10, 12] 5 _ _ HR.out.may0 ?_
  refine wpTake_stepE ⟨some 70, Op.move (Operand.tmp 14), 4, "", #[], none⟩ 70 (.bool true) HR.out.o0 rfl (by rw [hsz]; decide) (wanted_none rfl) (fun z hS => orr_0 b1 o1 n c i bs hi hc hn9 nn nv v1 v2 qr hqr rr _ z (fun _ => rfl) e14 hS) ?_
  intro a1 ha1 s1 f1 n1 k1
  replace hsz := s1.trans hsz
  replace hdf := f1.trans hdf
  replace e0 := (k1 0 (by decide)).trans e0
  replace e8 := (k1 8 (by decide)).trans e8
  replace e13 := (k1 13 (by decide)).trans e13
  have e70 := n1
  clear s1 f1 n1 k1
  refine wpTake_stepE ⟨some 71, Op.move (Operand.tmp 70), 4, "", #[], none⟩ 71 (.bool true) HR.out.o1 rfl (by rw [hsz]; decide) (wanted_none rfl) (fun z hS => orr_1 b1 o1 n c i bs hi hc hn9 nn nv v1 v2 qr hqr rr _ z (fun _ => rfl) e70 hS) ?_
  intro a2 ha2 s1 f1 n1 k1
  replace hsz := s1.trans hsz
  replace hdf := f1.trans hdf
  replace e0 := (k1 0 (by decide)).trans e0
  replace e8 := (k1 8 (by decide)).trans e8
  replace e13 := (k1 13 (by decide)).trans e13
  have e71 := n1
  clear s1 f1 n1 k1
  refine wpTake_stepE ⟨some 73, Op.move (Operand.tmp 0), 44, "", #[], some (1, true)⟩ 73 (.slice (some ⟨b1, o1, none⟩) n c) HR.out.o3 rfl (by rw [hsz]; decide) (wanted_some rfl (yielded_of HR.out.o1 rfl e71 (by rw [hsz]; decide))) (fun z hS => orr_3 b1 o1 n c i bs hi hc hn9 nn nv v1 v2 qr hqr rr _ z (fun _ => rfl) e0 hS) ?_
  intro a3 ha3 s1 f1 n1 k1
  replace hsz := s1.trans hsz
  replace hdf := f1.trans hdf
  replace e0 := (k1 0 (by decide)).trans e0
  replace e8 := (k1 8 (by decide)).trans e8
  replace e13 := (k1 13 (by decide)).trans e13
  replace e71 := (k1 71 (by decide)).trans e71
  have e73 := n1
  clear s1 f1 n1 k1
  refine wpTake_stepE ⟨some 74, Op.move (Operand.tmp 8), 3, "", #[], some (1, true)⟩ 74 (.int .i64 (i : Int)) HR.out.o4 rfl (by rw [hsz]; decide) (wanted_some rfl (yielded_of HR.out.o1 rfl e71 (by rw [hsz]; decide))) (fun z hS => orr_4 b1 o1 n c i bs hi hc hn9 nn nv v1 v2 qr hqr rr _ z (fun _ => rfl) e8 hS) ?_
  intro a4 ha4 s1 f1 n1 k1
  replace hsz := s1.trans hsz
  replace hdf := f1.trans hdf
  replace e0 := (k1 0 (by decide)).trans e0
  replace e8 := (k1 8 (by decide)).trans e8
  replace e13 := (k1 13 (by decide)).trans e13
  replace e71 := (k1 71 (by decide)).trans e71
  replace e73 := (k1 73 (by decide)).trans e73
  have e74 := n1
  clear s1 f1 n1 k1
  refine wpTake_stepE ⟨some 75, Op.slice 44 (Operand.tmp 73) none (some (Operand.tmp 74)) none, 44, "", #[], some (1, true)⟩ 75 (.slice (some ⟨b1, o1, none⟩) i c) HR.out.o5 rfl (by rw [hsz]; decide) (wanted_some rfl (yielded_of HR.out.o1 rfl e71 (by rw [hsz]; decide))) (fun z hS => orr_5 b1 o1 n c i bs hi hc hn9 nn nv v1 v2 qr hqr rr _ z (fun _ => rfl) e73 e74 hS) ?_
  intro a5 ha5 s1 f1 n1 k1
  replace hsz := s1.trans hsz
  replace hdf := f1.trans hdf
  replace e0 := (k1 0 (by decide)).trans e0
  replace e8 := (k1 8 (by decide)).trans e8
  replace e13 := (k1 13 (by decide)).trans e13
  replace e71 := (k1 71 (by decide)).trans e71
  have e75 := n1
  clear s1 f1 n1 k1
  refine wpTake_stepE ⟨some 77, Op.move (Operand.tmp 0), 44, "", #[], some (1, true)⟩ 77 (.slice (some ⟨b1, o1, none⟩) n c) HR.out.o7 rfl (by rw [hsz]; decide) (wanted_some rfl (yielded_of HR.out.o1 rfl e71 (by rw [hsz]; decide))) (fun z hS => orr_7 b1 o1 n c i bs hi hc hn9 nn nv v1 v2 qr hqr rr _ z (fun _ => rfl) e0 hS) ?_
  intro a6 ha6 s1 f1 n1 k1
  replace hsz := s1.trans hsz
  replace hdf := f1.trans hdf
  replace e8 := (k1 8 (by decide)).trans e8
  replace e13 := (k1 13 (by decide)).trans e13
  replace e71 := (k1 71 (by decide)).trans e71
  replace e75 := (k1 75 (by decide)).trans e75
  have e77 := n1
  clear s1 f1 n1 k1
  refine wpTake_stepE ⟨some 78, Op.move (Operand.tmp 8), 3, "", #[], some (1, true)⟩ 78 (.int .i64 (i : Int)) HR.out.o8 rfl (by rw [hsz]; decide) (wanted_some rfl (yielded_of HR.out.o1 rfl e71 (by rw [hsz]; decide))) (fun z hS => orr_8 b1 o1 n c i bs hi hc hn9 nn nv v1 v2 qr hqr rr _ z (fun _ => rfl) e8 hS) ?_
  intro a7 ha7 s1 f1 n1 k1
  replace hsz := s1.trans hsz
  replace hdf := f1.trans hdf
  replace e13 := (k1 13 (by decide)).trans e13
  replace e71 := (k1 71 (by decide)).trans e71
  replace e75 := (k1 75 (by decide)).trans e75
  replace e77 := (k1 77 (by decide)).trans e77
  have e78 := n1
  clear s1 f1 n1 k1
  refine wpTake_stepE ⟨some 79, Op.binOp BinOp.add 3 (Operand.tmp 78) (Operand.const (Value.int IntKind.i64 1)) 3, 3, "", #[], some (1, true)⟩ 79 (.int .i64 ((i : Int) + 1)) HR.out.o9 rfl (by rw [hsz]; decide) (wanted_some rfl (yielded_of HR.out.o1 rfl e71 (by rw [hsz]; decide))) (fun z hS => orr_9 b1 o1 n c i bs hi hc hn9 nn nv v1 v2 qr hqr rr _ z (fun _ => rfl) e78 hS) ?_
  intro a8 ha8 s1 f1 n1 k1
  replace hsz := s1.trans hsz
  replace hdf := f1.trans hdf
  replace e13 := (k1 13 (by decide)).trans e13
  replace e71 := (k1 71 (by decide)).trans e71
  replace e75 := (k1 75 (by decide)).trans e75
  replace e77 := (k1 77 (by decide)).trans e77
  have e79 := n1
  clear s1 f1 n1 k1
  refine wpTake_stepE ⟨some 80, Op.slice 44 (Operand.tmp 77) (some (Operand.tmp 79)) none none, 44, "", #[], some (1, true)⟩ 80 (.slice qr (n - (i + 1)) (c - (i + 1))) HR.out.o10 rfl (by rw [hsz]; decide) (wanted_some rfl (yielded_of HR.out.o1 rfl e71 (by rw [hsz]; decide))) (fun z hS => orr_10 b1 o1 n c i bs hi hc hn9 nn nv v1 v2 qr hqr rr _ z (fun _ => rfl) e77 e79 hS) ?_
  intro a9 ha9 s1 f1 n1 k1
  replace hsz := s1.trans hsz
  replace hdf := f1.trans hdf
  replace e13 := (k1 13 (by decide)).trans e13
  replace e71 := (k1 71 (by decide)).trans e71
  replace e75 := (k1 75 (by decide)).trans e75
  have e80 := n1
  clear s1 f1 n1 k1
  refine wpTake_stepE ⟨some 82, Op.load 55 (Operand.tmp 13), 55, "", #[], some (1, true)⟩ 82 (.agg #[.int .i64 nn, nv]) HR.out.o12 rfl (by rw [hsz]; decide) (wanted_some rfl (yielded_of HR.out.o1 rfl e71 (by rw [hsz]; decide))) (fun z hS => orr_12 b1 o1 n c i bs hi hc hn9 nn nv v1 v2 qr hqr rr _ z (fun _ => rfl) e13 hS) ?_
  intro a10 ha10 s1 f1 n1 k1
  replace hsz := s1.trans hsz
  replace hdf := f1.trans hdf
  replace e71 := (k1 71 (by decide)).trans e71
  replace e75 := (k1 75 (by decide)).trans e75
  replace e80 := (k1 80 (by decide)).trans e80
  have e82 := n1
  clear s1 f1 n1 k1
  refine wpTake_nil ?_
  refine wpAnyH_runG ⟨some 72, Op.buildSlice 44 0 #[], 44, "", #[], some (1, true)⟩ _ (.slice (some ⟨y.drew.heap.size, 0, none⟩) 0 0) (y.drew.alloc (.cells #[] 51)) HR.out.r2 HR.out.o2 (wanted_some rfl (yielded_of HR.out.o1 rfl e71 (by rw [hsz]; decide))) rfl (or_bs _ _) (hS1) ?_
  replace hHeld := hS1
  obtain ⟨s1, f1, n1, k1⟩ := act_put a10 72 (.slice (some ⟨y.drew.heap.size, 0, none⟩) 0 0) (show 72 < _ by rw [hsz]; decide)
  obtain ⟨a11, ha11⟩ : ∃ x, x = Act.put a10 (some 72) (.slice (some ⟨y.drew.heap.size, 0, none⟩) 0 0) := ⟨_, rfl⟩
  rw [← ha11] at s1 f1 n1 k1 ⊢
  replace hsz := s1.trans hsz
  replace hdf := f1.trans hdf
  replace e71 := (k1 71 (by decide)).trans e71
  replace e75 := (k1 75 (by decide)).trans e75
  replace e80 := (k1 80 (by decide)).trans e80
  replace e82 := (k1 82 (by decide)).trans e82
  have e72 := n1
  clear s1 f1 n1 k1
  refine wpAnyH_runG ⟨some 76, Op.call { callee := Callee.builtin Builtin.append, args := #[Operand.tmp 72, Operand.tmp 75], argTypes := #[44, 44] }, 44, "", #[], some (1, true)⟩ _ (v1) w2 HR.out.r6 HR.out.o6 (wanted_some rfl (yielded_of HR.out.o1 rfl e71 (by rw [hsz]; decide))) rfl (or_ap6 _ _ _ _ _ _ e72 e75 hap1) (hS2) ?_
  replace hHeld := hS2
  obtain ⟨s1, f1, n1, k1⟩ := act_put a11 76 (v1) (show 76 < _ by rw [hsz]; decide)
  obtain ⟨a12, ha12⟩ : ∃ x, x = Act.put a11 (some 76) (v1) := ⟨_, rfl⟩
  rw [← ha12] at s1 f1 n1 k1 ⊢
  replace hsz := s1.trans hsz
  replace hdf := f1.trans hdf
  replace e71 := (k1 71 (by decide)).trans e71
  replace e80 := (k1 80 (by decide)).trans e80
  replace e82 := (k1 82 (by decide)).trans e82
  have e76 := n1
  clear s1 f1 n1 k1
  refine wpAnyH_runG ⟨some 81, Op.call { callee := Callee.builtin Builtin.append, args := #[Operand.tmp 76, Operand.tmp 80], argTypes := #[44, 44] }, 44, "", #[], some (1, true)⟩ _ (v2) w3 HR.out.r11 HR.out.o11 (wanted_some rfl (yielded_of HR.out.o1 rfl e71 (by rw [hsz]; decide))) rfl (or_ap11 _ _ _ _ _ _ e76 e80 hap2) (hS3) ?_
  replace hHeld := hS3
  obtain ⟨s1, f1, n1, k1⟩ := act_put a12 81 (v2) (show 81 < _ by rw [hsz]; decide)
  obtain ⟨a13, ha13⟩ : ∃ x, x = Act.put a12 (some 81) (v2) := ⟨_, rfl⟩
  rw [← ha13] at s1 f1 n1 k1 ⊢
  replace hsz := s1.trans hsz
  replace hdf := f1.trans hdf
  replace e71 := (k1 71 (by decide)).trans e71
  replace e82 := (k1 82 (by decide)).trans e82
  have e81 := n1
  clear s1 f1 n1 k1
  refine wpAnyH_oneG ⟨some 83, Op.call { callee := Callee.value (Operand.func 23), args := #[Operand.tmp 81, Operand.tmp 82], argTypes := #[44, 55] }, 4, "", #[], some (1, true)⟩ HR.out.r13 HR.out.o13 (wanted_some rfl (yielded_of HR.out.o1 rfl e71 (by rw [hsz]; decide))) (fun K' hK' => ?_)
  refine wp_enter (orr_13 b1 o1 n c i bs hi hc hn9 nn nv v1 v2 qr hqr rr _ _ (fun _ => rfl) rfl e81 e82) (hcl) ?_
  rintro e9 w9 ⟨rfl, hS9, hT⟩
  refine ⟨_, rfl, hK'.out _ _ (hS9) ?_⟩
  replace hHeld := hS9
  clear hK' K'
  show wpAnyH _ _ _ _ _ _ _ (Act.put a13 (some 83) (.bool rr)) _
  obtain ⟨s1, f1, n1, k1⟩ := act_put a13 83 (.bool rr) (show 83 < _ by rw [hsz]; decide)
  obtain ⟨a14, ha14⟩ : ∃ x, x = Act.put a13 (some 83) (.bool rr) := ⟨_, rfl⟩
  rw [← ha14] at s1 f1 n1 k1 ⊢
  replace hsz := s1.trans hsz
  replace hdf := f1.trans hdf
  replace e71 := (k1 71 (by decide)).trans e71
  have e83 := n1
  clear s1 f1 n1 k1
  refine wpAnyH_takes HR.out.sel hQ hHeld [14] 0 _ _ HR.out.may1 ?_
  refine wpTake_stepE ⟨some 84, Op.pick (Operand.tmp 71) (Operand.tmp 83) (Operand.const (Value.bool false)), 4, "", #[], none⟩ 84 (.bool rr) HR.out.o14 rfl (by rw [hsz]; decide) (wanted_none rfl) (fun z hS => orr_14 b1 o1 n c i bs hi hc hn9 nn nv v1 v2 qr hqr rr _ z (fun _ => rfl) e71 e83 hS) ?_
  intro a15 ha15 s1 f1 n1 k1
  replace hsz := s1.trans hsz
  replace hdf := f1.trans hdf
  clear s1 f1 n1 k1
  refine wpTake_nil ?_
  refine wpAnyH_done HR.out.fin ?_ _
  rw [ha15, ha14, ha13, ha12, ha11, ha10, ha9, ha8, ha7, ha6, ha5, ha4, ha3, ha2, ha1]
  exact hK _ hT
-- R: ⟨by kernel_rfl, by kernel_rfl, by kernel_rfl, by kernel_rfl, by kernel_rfl, by kernel_rfl, by kernel_rfl, by kernel_rfl, by kernel_rfl, by kernel_rfl, by kernel_rfl, by kernel_rfl, by kernel_rfl, by kernel_rfl, by kernel_rfl, by kernel_rfl, by kernel_rfl, by kernel_rfl, by kernel_rfl, by kernel_rfl, by kernel_rfl, by kernel_rfl, by kernel_rfl, by kernel_rfl⟩

end Go.Proofs.Ytbbgplnenbkfeaa
