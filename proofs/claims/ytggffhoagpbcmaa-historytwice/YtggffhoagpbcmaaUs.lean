/- HistoryTwice (laid by scripts/mkus.py). -/
import Derived.Test.YtggffhoagpbcmaaUq
import Derived.Test.YtggffhoagpbcmaaUr
namespace Go.Proofs.Ytggffhoagpbcmaa
set_option linter.unusedVariables false
set_option linter.unusedSimpArgs false
open Go.RowKit Go.Deep Go.Maps

theorem exec_cv {ev : Operand → Value} {d : Option Tmp} {g : Option (Nat × Bool)} {t1 t2 ty2 : TypeId} {x : Operand} {v u : Value} {z : World} (he : ev x = v) (hr : (convert t1 t2 v).run Try.prog z = .ok u z) : (execOp ev ⟨d, Op.convert t1 t2 x, ty2, "", #[], g⟩).run Try.prog z = .ok (.value u) z := by
  unfold execOp
  simp only [he]
  simp [hr]

theorem tw_0 (g1 g2 cap2 g3 cap3 : Nat) (hcap2 : (4 : Nat) ≤ cap2) (av bv : Value) (sa sb : ByteArray) (r : Bool) (hr : (sa.toList == sb.toList) = r) (ev : Operand → Value) (z : World) (ec : ∀ c, ev (.const c) = c) (e7 : ev (.tmp 7) = .slice (some ⟨g1, 0, none⟩) 4 4) (hS : (convert 27 9 av).run Try.prog z = .ok (.string sa) z ∧ (convert 27 9 bv).run Try.prog z = .ok (.string sb) z) : (execOp ev ⟨some 32, Op.move (Operand.tmp 7), 22, "", #[], none⟩).run Try.prog z = .ok (.value (.slice (some ⟨g1, 0, none⟩) 4 4)) z := by
  obtain ⟨s1, s2⟩ := hS
  go_simp
set_option maxRecDepth 100000 in
theorem tw_1 (g1 g2 cap2 g3 cap3 : Nat) (hcap2 : (4 : Nat) ≤ cap2) (av bv : Value) (sa sb : ByteArray) (r : Bool) (hr : (sa.toList == sb.toList) = r) (ev : Operand → Value) (z : World) (ec : ∀ c, ev (.const c) = c) (ef : ev (.func 12) = .func (.func 12) #[] #[]) (e32 : ev (.tmp 32) = .slice (some ⟨g1, 0, none⟩) 4 4) : (execOp ev ⟨some 33, Op.call { callee := Callee.value (Operand.func 12), args := #[Operand.tmp 32], argTypes := #[22] }, 4, "", #[], none⟩).run Try.prog z = .ok (.enter 12 #[.slice (some ⟨g1, 0, none⟩) 4 4]) z :=
  enter_run _ ef (by simp only [List.map_toArray, List.map_cons, List.map_nil, ec, e32]) (fun _ => by rfl)
theorem tw_2 (g1 g2 cap2 g3 cap3 : Nat) (hcap2 : (4 : Nat) ≤ cap2) (av bv : Value) (sa sb : ByteArray) (r : Bool) (hr : (sa.toList == sb.toList) = r) (ev : Operand → Value) (z : World) (ec : ∀ c, ev (.const c) = c) (e33 : ev (.tmp 33) = .bool false) (hS : (convert 27 9 av).run Try.prog z = .ok (.string sa) z ∧ (convert 27 9 bv).run Try.prog z = .ok (.string sb) z) : (execOp ev ⟨some 34, Op.unOp UnOp.not 4 (Operand.tmp 33), 4, "", #[], none⟩).run Try.prog z = .ok (.value (.bool true)) z := by
  clear hS
  go_simp
theorem tw_3 (g1 g2 cap2 g3 cap3 : Nat) (hcap2 : (4 : Nat) ≤ cap2) (av bv : Value) (sa sb : ByteArray) (r : Bool) (hr : (sa.toList == sb.toList) = r) (ev : Operand → Value) (z : World) (ec : ∀ c, ev (.const c) = c) (e34 : ev (.tmp 34) = .bool true) (hS : (convert 27 9 av).run Try.prog z = .ok (.string sa) z ∧ (convert 27 9 bv).run Try.prog z = .ok (.string sb) z) : (execOp ev ⟨some 35, Op.move (Operand.tmp 34), 4, "", #[], none⟩).run Try.prog z = .ok (.value (.bool true)) z := by
  obtain ⟨s1, s2⟩ := hS
  go_simp
theorem tw_4 (g1 g2 cap2 g3 cap3 : Nat) (hcap2 : (4 : Nat) ≤ cap2) (av bv : Value) (sa sb : ByteArray) (r : Bool) (hr : (sa.toList == sb.toList) = r) (ev : Operand → Value) (z : World) (ec : ∀ c, ev (.const c) = c) (e8 : ev (.tmp 8) = .slice (some ⟨g2, 0, none⟩) 4 cap2) (hS : (convert 27 9 av).run Try.prog z = .ok (.string sa) z ∧ (convert 27 9 bv).run Try.prog z = .ok (.string sb) z) : (execOp ev ⟨some 36, Op.move (Operand.tmp 8), 22, "", #[], some (3, true)⟩).run Try.prog z = .ok (.value (.slice (some ⟨g2, 0, none⟩) 4 cap2)) z := by
  obtain ⟨s1, s2⟩ := hS
  go_simp
set_option maxRecDepth 100000 in
theorem tw_5 (g1 g2 cap2 g3 cap3 : Nat) (hcap2 : (4 : Nat) ≤ cap2) (av bv : Value) (sa sb : ByteArray) (r : Bool) (hr : (sa.toList == sb.toList) = r) (ev : Operand → Value) (z : World) (ec : ∀ c, ev (.const c) = c) (ef : ev (.func 12) = .func (.func 12) #[] #[]) (e36 : ev (.tmp 36) = .slice (some ⟨g2, 0, none⟩) 4 cap2) : (execOp ev ⟨some 37, Op.call { callee := Callee.value (Operand.func 12), args := #[Operand.tmp 36], argTypes := #[22] }, 4, "", #[], some (3, true)⟩).run Try.prog z = .ok (.enter 12 #[.slice (some ⟨g2, 0, none⟩) 4 cap2]) z :=
  enter_run _ ef (by simp only [List.map_toArray, List.map_cons, List.map_nil, ec, e36]) (fun _ => by rfl)
theorem tw_6 (g1 g2 cap2 g3 cap3 : Nat) (hcap2 : (4 : Nat) ≤ cap2) (av bv : Value) (sa sb : ByteArray) (r : Bool) (hr : (sa.toList == sb.toList) = r) (ev : Operand → Value) (z : World) (ec : ∀ c, ev (.const c) = c) (e35 : ev (.tmp 35) = .bool true) (e37 : ev (.tmp 37) = .bool true) (hS : (convert 27 9 av).run Try.prog z = .ok (.string sa) z ∧ (convert 27 9 bv).run Try.prog z = .ok (.string sb) z) : (execOp ev ⟨some 38, Op.pick (Operand.tmp 35) (Operand.tmp 37) (Operand.const (Value.bool false)), 4, "", #[], none⟩).run Try.prog z = .ok (.value (.bool true)) z := by
  clear hS
  go_simp
theorem tw_7 (g1 g2 cap2 g3 cap3 : Nat) (hcap2 : (4 : Nat) ≤ cap2) (av bv : Value) (sa sb : ByteArray) (r : Bool) (hr : (sa.toList == sb.toList) = r) (ev : Operand → Value) (z : World) (ec : ∀ c, ev (.const c) = c) (e38 : ev (.tmp 38) = .bool true) (hS : (convert 27 9 av).run Try.prog z = .ok (.string sa) z ∧ (convert 27 9 bv).run Try.prog z = .ok (.string sb) z) : (execOp ev ⟨some 39, Op.move (Operand.tmp 38), 4, "", #[], none⟩).run Try.prog z = .ok (.value (.bool true)) z := by
  obtain ⟨s1, s2⟩ := hS
  go_simp
theorem tw_8 (g1 g2 cap2 g3 cap3 : Nat) (hcap2 : (4 : Nat) ≤ cap2) (av bv : Value) (sa sb : ByteArray) (r : Bool) (hr : (sa.toList == sb.toList) = r) (ev : Operand → Value) (z : World) (ec : ∀ c, ev (.const c) = c) (e9 : ev (.tmp 9) = .slice (some ⟨g3, 0, none⟩) 6 cap3) (hS : (convert 27 9 av).run Try.prog z = .ok (.string sa) z ∧ (convert 27 9 bv).run Try.prog z = .ok (.string sb) z) : (execOp ev ⟨some 40, Op.move (Operand.tmp 9), 22, "", #[], some (7, true)⟩).run Try.prog z = .ok (.value (.slice (some ⟨g3, 0, none⟩) 6 cap3)) z := by
  obtain ⟨s1, s2⟩ := hS
  go_simp
theorem tw_10 (g1 g2 cap2 g3 cap3 : Nat) (hcap2 : (4 : Nat) ≤ cap2) (av bv : Value) (sa sb : ByteArray) (r : Bool) (hr : (sa.toList == sb.toList) = r) (ev : Operand → Value) (z : World) (ec : ∀ c, ev (.const c) = c) (e1 : ev (.tmp 1) = av) (hS : (convert 27 9 av).run Try.prog z = .ok (.string sa) z ∧ (convert 27 9 bv).run Try.prog z = .ok (.string sb) z) : (execOp ev ⟨some 42, Op.move (Operand.tmp 1), 27, "", #[], some (7, true)⟩).run Try.prog z = .ok (.value (av)) z := by
  obtain ⟨s1, s2⟩ := hS
  go_simp
theorem tw_11 (g1 g2 cap2 g3 cap3 : Nat) (hcap2 : (4 : Nat) ≤ cap2) (av bv : Value) (sa sb : ByteArray) (r : Bool) (hr : (sa.toList == sb.toList) = r) (ev : Operand → Value) (z : World) (ec : ∀ c, ev (.const c) = c) (e42 : ev (.tmp 42) = av) (hS : (convert 27 9 av).run Try.prog z = .ok (.string sa) z ∧ (convert 27 9 bv).run Try.prog z = .ok (.string sb) z) : (execOp ev ⟨some 43, Op.convert 27 9 (Operand.tmp 42), 9, "", #[], some (7, true)⟩).run Try.prog z = .ok (.value (.string sa)) z := by
  exact exec_cv e42 hS.1
theorem tw_12 (g1 g2 cap2 g3 cap3 : Nat) (hcap2 : (4 : Nat) ≤ cap2) (av bv : Value) (sa sb : ByteArray) (r : Bool) (hr : (sa.toList == sb.toList) = r) (ev : Operand → Value) (z : World) (ec : ∀ c, ev (.const c) = c) (e2 : ev (.tmp 2) = bv) (hS : (convert 27 9 av).run Try.prog z = .ok (.string sa) z ∧ (convert 27 9 bv).run Try.prog z = .ok (.string sb) z) : (execOp ev ⟨some 44, Op.move (Operand.tmp 2), 27, "", #[], some (7, true)⟩).run Try.prog z = .ok (.value (bv)) z := by
  obtain ⟨s1, s2⟩ := hS
  go_simp
theorem tw_13 (g1 g2 cap2 g3 cap3 : Nat) (hcap2 : (4 : Nat) ≤ cap2) (av bv : Value) (sa sb : ByteArray) (r : Bool) (hr : (sa.toList == sb.toList) = r) (ev : Operand → Value) (z : World) (ec : ∀ c, ev (.const c) = c) (e44 : ev (.tmp 44) = bv) (hS : (convert 27 9 av).run Try.prog z = .ok (.string sa) z ∧ (convert 27 9 bv).run Try.prog z = .ok (.string sb) z) : (execOp ev ⟨some 45, Op.convert 27 9 (Operand.tmp 44), 9, "", #[], some (7, true)⟩).run Try.prog z = .ok (.value (.string sb)) z := by
  exact exec_cv e44 hS.2
theorem tw_14 (g1 g2 cap2 g3 cap3 : Nat) (hcap2 : (4 : Nat) ≤ cap2) (av bv : Value) (sa sb : ByteArray) (r : Bool) (hr : (sa.toList == sb.toList) = r) (ev : Operand → Value) (z : World) (ec : ∀ c, ev (.const c) = c) (e43 : ev (.tmp 43) = .string sa) (e45 : ev (.tmp 45) = .string sb) (hS : (convert 27 9 av).run Try.prog z = .ok (.string sa) z ∧ (convert 27 9 bv).run Try.prog z = .ok (.string sb) z) : (execOp ev ⟨some 46, Op.binOp BinOp.eql 9 (Operand.tmp 43) (Operand.tmp 45) 9, 4, "", #[], some (7, true)⟩).run Try.prog z = .ok (.value (.bool r)) z := by
  clear hS
  rw [← hr]
  go_simp
set_option maxRecDepth 100000 in
theorem tw_9 (g1 g2 cap2 g3 cap3 : Nat) (hcap2 : (4 : Nat) ≤ cap2) (av bv : Value) (sa sb : ByteArray) (r : Bool) (hr : (sa.toList == sb.toList) = r) (ev : Operand → Value) (z : World) (ec : ∀ c, ev (.const c) = c) (ef : ev (.func 12) = .func (.func 12) #[] #[]) (e40 : ev (.tmp 40) = .slice (some ⟨g3, 0, none⟩) 6 cap3) : (execOp ev ⟨some 41, Op.call { callee := Callee.value (Operand.func 12), args := #[Operand.tmp 40], argTypes := #[22] }, 4, "", #[], some (7, true)⟩).run Try.prog z = .ok (.enter 12 #[.slice (some ⟨g3, 0, none⟩) 6 cap3]) z :=
  enter_run _ ef (by simp only [List.map_toArray, List.map_cons, List.map_nil, ec, e40]) (fun _ => by rfl)
theorem tw_15 (g1 g2 cap2 g3 cap3 : Nat) (hcap2 : (4 : Nat) ≤ cap2) (av bv : Value) (sa sb : ByteArray) (r : Bool) (hr : (sa.toList == sb.toList) = r) (ev : Operand → Value) (z : World) (ec : ∀ c, ev (.const c) = c) (e41 : ev (.tmp 41) = .bool r) (e46 : ev (.tmp 46) = .bool r) (hS : (convert 27 9 av).run Try.prog z = .ok (.string sa) z ∧ (convert 27 9 bv).run Try.prog z = .ok (.string sb) z) : (execOp ev ⟨some 47, Op.binOp BinOp.eql 4 (Operand.tmp 41) (Operand.tmp 46) 4, 4, "", #[], some (7, true)⟩).run Try.prog z = .ok (.value (.bool true)) z := by
  clear hS
  go_simp
theorem tw_16 (g1 g2 cap2 g3 cap3 : Nat) (hcap2 : (4 : Nat) ≤ cap2) (av bv : Value) (sa sb : ByteArray) (r : Bool) (hr : (sa.toList == sb.toList) = r) (ev : Operand → Value) (z : World) (ec : ∀ c, ev (.const c) = c) (e39 : ev (.tmp 39) = .bool true) (e47 : ev (.tmp 47) = .bool true) (hS : (convert 27 9 av).run Try.prog z = .ok (.string sa) z ∧ (convert 27 9 bv).run Try.prog z = .ok (.string sb) z) : (execOp ev ⟨some 48, Op.pick (Operand.tmp 39) (Operand.tmp 47) (Operand.const (Value.bool false)), 4, "", #[], none⟩).run Try.prog z = .ok (.value (.bool true)) z := by
  clear hS
  go_simp
theorem tw_17 (g1 g2 cap2 g3 cap3 : Nat) (hcap2 : (4 : Nat) ≤ cap2) (av bv : Value) (sa sb : ByteArray) (r : Bool) (hr : (sa.toList == sb.toList) = r) (ev : Operand → Value) (z : World) (ec : ∀ c, ev (.const c) = c) (e48 : ev (.tmp 48) = .bool true) (hS : (convert 27 9 av).run Try.prog z = .ok (.string sa) z ∧ (convert 27 9 bv).run Try.prog z = .ok (.string sb) z) : (execOp ev ⟨some 49, Op.move (Operand.tmp 48), 4, "", #[], none⟩).run Try.prog z = .ok (.value (.bool true)) z := by
  obtain ⟨s1, s2⟩ := hS
  go_simp
theorem tw_18 (g1 g2 cap2 g3 cap3 : Nat) (hcap2 : (4 : Nat) ≤ cap2) (av bv : Value) (sa sb : ByteArray) (r : Bool) (hr : (sa.toList == sb.toList) = r) (ev : Operand → Value) (z : World) (ec : ∀ c, ev (.const c) = c) (e8 : ev (.tmp 8) = .slice (some ⟨g2, 0, none⟩) 4 cap2) (hS : (convert 27 9 av).run Try.prog z = .ok (.string sa) z ∧ (convert 27 9 bv).run Try.prog z = .ok (.string sb) z) : (execOp ev ⟨some 50, Op.move (Operand.tmp 8), 22, "", #[], some (17, true)⟩).run Try.prog z = .ok (.value (.slice (some ⟨g2, 0, none⟩) 4 cap2)) z := by
  obtain ⟨s1, s2⟩ := hS
  go_simp
theorem tw_19 (g1 g2 cap2 g3 cap3 : Nat) (hcap2 : (4 : Nat) ≤ cap2) (av bv : Value) (sa sb : ByteArray) (r : Bool) (hr : (sa.toList == sb.toList) = r) (ev : Operand → Value) (z : World) (ec : ∀ c, ev (.const c) = c) (e50 : ev (.tmp 50) = .slice (some ⟨g2, 0, none⟩) 4 cap2) (hS : (convert 27 9 av).run Try.prog z = .ok (.string sa) z ∧ (convert 27 9 bv).run Try.prog z = .ok (.string sb) z) : (execOp ev ⟨some 51, Op.slice 22 (Operand.tmp 50) none (some (Operand.const (Value.int IntKind.i64 2))) none, 22, "", #[], some (17, true)⟩).run Try.prog z = .ok (.value (.slice (some ⟨g2, 0, none⟩) 2 cap2)) z := by
  clear hS hr
  go_simp
  intro h
  omega
theorem tw_20 (g1 g2 cap2 g3 cap3 : Nat) (hcap2 : (4 : Nat) ≤ cap2) (av bv : Value) (sa sb : ByteArray) (r : Bool) (hr : (sa.toList == sb.toList) = r) (ev : Operand → Value) (z : World) (ec : ∀ c, ev (.const c) = c) (e7 : ev (.tmp 7) = .slice (some ⟨g1, 0, none⟩) 4 4) (hS : (convert 27 9 av).run Try.prog z = .ok (.string sa) z ∧ (convert 27 9 bv).run Try.prog z = .ok (.string sb) z) : (execOp ev ⟨some 52, Op.move (Operand.tmp 7), 22, "", #[], some (17, true)⟩).run Try.prog z = .ok (.value (.slice (some ⟨g1, 0, none⟩) 4 4)) z := by
  obtain ⟨s1, s2⟩ := hS
  go_simp
theorem tw_21 (g1 g2 cap2 g3 cap3 : Nat) (hcap2 : (4 : Nat) ≤ cap2) (av bv : Value) (sa sb : ByteArray) (r : Bool) (hr : (sa.toList == sb.toList) = r) (ev : Operand → Value) (z : World) (ec : ∀ c, ev (.const c) = c) (e52 : ev (.tmp 52) = .slice (some ⟨g1, 0, none⟩) 4 4) (hS : (convert 27 9 av).run Try.prog z = .ok (.string sa) z ∧ (convert 27 9 bv).run Try.prog z = .ok (.string sb) z) : (execOp ev ⟨some 53, Op.slice 22 (Operand.tmp 52) none (some (Operand.const (Value.int IntKind.i64 2))) none, 22, "", #[], some (17, true)⟩).run Try.prog z = .ok (.value (.slice (some ⟨g1, 0, none⟩) 2 4)) z := by
  clear hS
  go_simp
set_option maxRecDepth 100000 in
theorem tw_22 (g1 g2 cap2 g3 cap3 : Nat) (hcap2 : (4 : Nat) ≤ cap2) (av bv : Value) (sa sb : ByteArray) (r : Bool) (hr : (sa.toList == sb.toList) = r) (ev : Operand → Value) (z : World) (ec : ∀ c, ev (.const c) = c) (ef : ev (.func 16) = .func (.func 16) #[] #[]) (e51 : ev (.tmp 51) = .slice (some ⟨g2, 0, none⟩) 2 cap2) (e53 : ev (.tmp 53) = .slice (some ⟨g1, 0, none⟩) 2 4) : (execOp ev ⟨some 54, Op.call { callee := Callee.value (Operand.func 16), args := #[Operand.tmp 51, Operand.tmp 53], argTypes := #[22, 22] }, 4, "", #[], some (17, true)⟩).run Try.prog z = .ok (.enter 16 #[.slice (some ⟨g2, 0, none⟩) 2 cap2, .slice (some ⟨g1, 0, none⟩) 2 4]) z :=
  enter_run _ ef (by simp only [List.map_toArray, List.map_cons, List.map_nil, ec, e51, e53]) (fun _ => by rfl)
theorem tw_23 (g1 g2 cap2 g3 cap3 : Nat) (hcap2 : (4 : Nat) ≤ cap2) (av bv : Value) (sa sb : ByteArray) (r : Bool) (hr : (sa.toList == sb.toList) = r) (ev : Operand → Value) (z : World) (ec : ∀ c, ev (.const c) = c) (e49 : ev (.tmp 49) = .bool true) (e54 : ev (.tmp 54) = .bool true) (hS : (convert 27 9 av).run Try.prog z = .ok (.string sa) z ∧ (convert 27 9 bv).run Try.prog z = .ok (.string sb) z) : (execOp ev ⟨some 55, Op.pick (Operand.tmp 49) (Operand.tmp 54) (Operand.const (Value.bool false)), 4, "", #[], none⟩).run Try.prog z = .ok (.value (.bool true)) z := by
  clear hS
  go_simp
theorem tw_24 (g1 g2 cap2 g3 cap3 : Nat) (hcap2 : (4 : Nat) ≤ cap2) (av bv : Value) (sa sb : ByteArray) (r : Bool) (hr : (sa.toList == sb.toList) = r) (ev : Operand → Value) (z : World) (ec : ∀ c, ev (.const c) = c) (e55 : ev (.tmp 55) = .bool true) (hS : (convert 27 9 av).run Try.prog z = .ok (.string sa) z ∧ (convert 27 9 bv).run Try.prog z = .ok (.string sb) z) : (execOp ev ⟨some 6, Op.assign (Operand.tmp 55), 4, "", #[], none⟩).run Try.prog z = .ok (.value (.bool true)) z := by
  clear hS
  go_simp
structure twR (ops : Array Oper) : Prop where
  size : ops.size = 25
  sel : Region.noSelect ops = true
  o0 : (ops[0]?).map bare = some ⟨some 32, Op.move (Operand.tmp 7), 22, "", #[], none⟩
  o1 : (ops[1]?).map bare = some ⟨some 33, Op.call { callee := Callee.value (Operand.func 12), args := #[Operand.tmp 32], argTypes := #[22] }, 4, "", #[], none⟩
  o2 : (ops[2]?).map bare = some ⟨some 34, Op.unOp UnOp.not 4 (Operand.tmp 33), 4, "", #[], none⟩
  o3 : (ops[3]?).map bare = some ⟨some 35, Op.move (Operand.tmp 34), 4, "", #[], none⟩
  o4 : (ops[4]?).map bare = some ⟨some 36, Op.move (Operand.tmp 8), 22, "", #[], some (3, true)⟩
  o5 : (ops[5]?).map bare = some ⟨some 37, Op.call { callee := Callee.value (Operand.func 12), args := #[Operand.tmp 36], argTypes := #[22] }, 4, "", #[], some (3, true)⟩
  o6 : (ops[6]?).map bare = some ⟨some 38, Op.pick (Operand.tmp 35) (Operand.tmp 37) (Operand.const (Value.bool false)), 4, "", #[], none⟩
  o7 : (ops[7]?).map bare = some ⟨some 39, Op.move (Operand.tmp 38), 4, "", #[], none⟩
  o8 : (ops[8]?).map bare = some ⟨some 40, Op.move (Operand.tmp 9), 22, "", #[], some (7, true)⟩
  o9 : (ops[9]?).map bare = some ⟨some 41, Op.call { callee := Callee.value (Operand.func 12), args := #[Operand.tmp 40], argTypes := #[22] }, 4, "", #[], some (7, true)⟩
  o10 : (ops[10]?).map bare = some ⟨some 42, Op.move (Operand.tmp 1), 27, "", #[], some (7, true)⟩
  o11 : (ops[11]?).map bare = some ⟨some 43, Op.convert 27 9 (Operand.tmp 42), 9, "", #[], some (7, true)⟩
  o12 : (ops[12]?).map bare = some ⟨some 44, Op.move (Operand.tmp 2), 27, "", #[], some (7, true)⟩
  o13 : (ops[13]?).map bare = some ⟨some 45, Op.convert 27 9 (Operand.tmp 44), 9, "", #[], some (7, true)⟩
  o14 : (ops[14]?).map bare = some ⟨some 46, Op.binOp BinOp.eql 9 (Operand.tmp 43) (Operand.tmp 45) 9, 4, "", #[], some (7, true)⟩
  o15 : (ops[15]?).map bare = some ⟨some 47, Op.binOp BinOp.eql 4 (Operand.tmp 41) (Operand.tmp 46) 4, 4, "", #[], some (7, true)⟩
  o16 : (ops[16]?).map bare = some ⟨some 48, Op.pick (Operand.tmp 39) (Operand.tmp 47) (Operand.const (Value.bool false)), 4, "", #[], none⟩
  o17 : (ops[17]?).map bare = some ⟨some 49, Op.move (Operand.tmp 48), 4, "", #[], none⟩
  o18 : (ops[18]?).map bare = some ⟨some 50, Op.move (Operand.tmp 8), 22, "", #[], some (17, true)⟩
  o19 : (ops[19]?).map bare = some ⟨some 51, Op.slice 22 (Operand.tmp 50) none (some (Operand.const (Value.int IntKind.i64 2))) none, 22, "", #[], some (17, true)⟩
  o20 : (ops[20]?).map bare = some ⟨some 52, Op.move (Operand.tmp 7), 22, "", #[], some (17, true)⟩
  o21 : (ops[21]?).map bare = some ⟨some 53, Op.slice 22 (Operand.tmp 52) none (some (Operand.const (Value.int IntKind.i64 2))) none, 22, "", #[], some (17, true)⟩
  o22 : (ops[22]?).map bare = some ⟨some 54, Op.call { callee := Callee.value (Operand.func 16), args := #[Operand.tmp 51, Operand.tmp 53], argTypes := #[22, 22] }, 4, "", #[], some (17, true)⟩
  o23 : (ops[23]?).map bare = some ⟨some 55, Op.pick (Operand.tmp 49) (Operand.tmp 54) (Operand.const (Value.bool false)), 4, "", #[], none⟩
  o24 : (ops[24]?).map bare = some ⟨some 6, Op.assign (Operand.tmp 55), 4, "", #[], none⟩
  may0 : takeB .any ops [0] (Array.replicate 25 false) = true
  r1 : Region.ready .any ops (mark [0] (Array.replicate 25 false)) = [1]
  may1 : takeB .any ops [2, 3, 4] ((mark [0] (Array.replicate 25 false)).setIfInBounds 1 true) = true
  r5 : Region.ready .any ops (mark [2, 3, 4] ((mark [0] (Array.replicate 25 false)).setIfInBounds 1 true)) = [5]
  may2 : takeB .any ops [6, 7, 8, 10, 11, 12, 13, 14] ((mark [2, 3, 4] ((mark [0] (Array.replicate 25 false)).setIfInBounds 1 true)).setIfInBounds 5 true) = true
  r9 : Region.ready .any ops (mark [6, 7, 8, 10, 11, 12, 13, 14] ((mark [2, 3, 4] ((mark [0] (Array.replicate 25 false)).setIfInBounds 1 true)).setIfInBounds 5 true)) = [9]
  may3 : takeB .any ops [15, 16, 17, 18, 19, 20, 21] ((mark [6, 7, 8, 10, 11, 12, 13, 14] ((mark [2, 3, 4] ((mark [0] (Array.replicate 25 false)).setIfInBounds 1 true)).setIfInBounds 5 true)).setIfInBounds 9 true) = true
  r22 : Region.ready .any ops (mark [15, 16, 17, 18, 19, 20, 21] ((mark [6, 7, 8, 10, 11, 12, 13, 14] ((mark [2, 3, 4] ((mark [0] (Array.replicate 25 false)).setIfInBounds 1 true)).setIfInBounds 5 true)).setIfInBounds 9 true)) = [22]
  may4 : takeB .any ops [23, 24] ((mark [15, 16, 17, 18, 19, 20, 21] ((mark [6, 7, 8, 10, 11, 12, 13, 14] ((mark [2, 3, 4] ((mark [0] (Array.replicate 25 false)).setIfInBounds 1 true)).setIfInBounds 5 true)).setIfInBounds 9 true)).setIfInBounds 22 true) = true
  fin : Region.ready .any ops (mark [23, 24] ((mark [15, 16, 17, 18, 19, 20, 21] ((mark [6, 7, 8, 10, 11, 12, 13, 14] ((mark [2, 3, 4] ((mark [0] (Array.replicate 25 false)).setIfInBounds 1 true)).setIfInBounds 5 true)).setIfInBounds 9 true)).setIfInBounds 22 true)) = []

set_option maxRecDepth 100000 in
set_option maxHeartbeats 3200000 in
theorem tw_region {ops : Array Oper} {id : Nat} {Q : Exit → Act → World → Prop} {a : Act} {y : World} (R : twR ops) (g1 g2 cap2 g3 cap3 : Nat) (hcap2 : (4 : Nat) ≤ cap2) (av bv : Value) (sa sb : ByteArray) (r : Bool) (hr : (sa.toList == sb.toList) = r)
    (hQ : ∀ d v c a w, Q (.panic c) (a.put d v) w → Q (.panic c) a w) (hsz : a.tmps.size = 56) (e1 : a.eval (.tmp 1) = av) (e2 : a.eval (.tmp 2) = bv) (e7 : a.eval (.tmp 7) = .slice (some ⟨g1, 0, none⟩) 4 4) (e8 : a.eval (.tmp 8) = .slice (some ⟨g2, 0, none⟩) 4 cap2) (e9 : a.eval (.tmp 9) = .slice (some ⟨g3, 0, none⟩) 6 cap3) (hS0 : (convert 27 9 av).run Try.prog y.drew = .ok (.string sa) y.drew ∧ (convert 27 9 bv).run Try.prog y.drew = .ok (.string sb) y.drew) (T : World → Prop) (hc : Calls Try.prog 12 #[.slice (some ⟨g1, 0, none⟩) 4 4] y.drew fun e w9 => e = .returned (.bool false) ∧ ((convert 27 9 av).run Try.prog w9 = .ok (.string sa) w9 ∧ (convert 27 9 bv).run Try.prog w9 = .ok (.string sb) w9) ∧ Calls Try.prog 12 #[.slice (some ⟨g2, 0, none⟩) 4 cap2] w9 fun e w8 => e = .returned (.bool true) ∧ ((convert 27 9 av).run Try.prog w8 = .ok (.string sa) w8 ∧ (convert 27 9 bv).run Try.prog w8 = .ok (.string sb) w8) ∧ Calls Try.prog 12 #[.slice (some ⟨g3, 0, none⟩) 6 cap3] w8 fun e w7 => e = .returned (.bool r) ∧ ((convert 27 9 av).run Try.prog w7 = .ok (.string sa) w7 ∧ (convert 27 9 bv).run Try.prog w7 = .ok (.string sb) w7) ∧ Calls Try.prog 16 #[.slice (some ⟨g2, 0, none⟩) 2 cap2, .slice (some ⟨g1, 0, none⟩) 2 4] w7 fun e w6 => e = .returned (.bool true) ∧ ((convert 27 9 av).run Try.prog w6 = .ok (.string sa) w6 ∧ (convert 27 9 bv).run Try.prog w6 = .ok (.string sb) w6) ∧ T w6)
    (hK : ∀ w6 : World, T w6 → Q .normal (((((((((((((((((((((((((a.put (some 32) (.slice (some ⟨g1, 0, none⟩) 4 4)).put (some 33) (.bool false)).put (some 34) (.bool true)).put (some 35) (.bool true)).put (some 36) (.slice (some ⟨g2, 0, none⟩) 4 cap2)).put (some 37) (.bool true)).put (some 38) (.bool true)).put (some 39) (.bool true)).put (some 40) (.slice (some ⟨g3, 0, none⟩) 6 cap3)).put (some 42) (av)).put (some 43) (.string sa)).put (some 44) (bv)).put (some 45) (.string sb)).put (some 46) (.bool r)).put (some 41) (.bool r)).put (some 47) (.bool true)).put (some 48) (.bool true)).put (some 49) (.bool true)).put (some 50) (.slice (some ⟨g2, 0, none⟩) 4 cap2)).put (some 51) (.slice (some ⟨g2, 0, none⟩) 2 cap2)).put (some 52) (.slice (some ⟨g1, 0, none⟩) 4 4)).put (some 53) (.slice (some ⟨g1, 0, none⟩) 2 4)).put (some 54) (.bool true)).put (some 55) (.bool true)).put (some 6) (.bool true)) w6) : (Code.region id ops true).wp Try.prog Q a y := by
  have HR : Hid (twR ops) := R
  have hdf : a.defers = a.defers := rfl
  refine wp_region_held_drew (S := (fun z : World => (convert 27 9 av).run Try.prog z = .ok (.string sa) z ∧ (convert 27 9 bv).run Try.prog z = .ok (.string sb) z)) (by kernel_rfl) (hS0) (fun hHeld => ?_)
  rw [R.size]
  clear R
  refine wpAnyH_takes HR.out.sel hQ hHeld [0] 24 _ _ HR.out.may0 ?_
  refine wpTake_stepE ⟨some 32, Op.move (Operand.tmp 7), 22, "", #[], none⟩ 32 (.slice (some ⟨g1, 0, none⟩) 4 4) HR.out.o0 rfl (by rw [hsz]; decide) (wanted_none rfl) (fun z hS => tw_0 g1 g2 cap2 g3 cap3 hcap2 av bv sa sb r hr _ z (fun _ => rfl) e7 hS) ?_
  intro a1 ha1 s1 f1 n1 k1
  replace hsz := s1.trans hsz
  replace hdf := f1.trans hdf
  replace e1 := (k1 1 (by decide)).trans e1
  replace e2 := (k1 2 (by decide)).trans e2
  replace e7 := (k1 7 (by decide)).trans e7
  replace e8 := (k1 8 (by decide)).trans e8
  replace e9 := (k1 9 (by decide)).trans e9
  have e32 := n1
  clear s1 f1 n1 k1
  refine wpTake_nil ?_
  refine wpAnyH_one ⟨some 33, Op.call { callee := Callee.value (Operand.func 12), args := #[Operand.tmp 32], argTypes := #[22] }, 4, "", #[], none⟩ HR.out.r1 HR.out.o1 rfl (fun K' hK' => ?_)
  refine wp_enter (tw_1 g1 g2 cap2 g3 cap3 hcap2 av bv sa sb r hr _ _ (fun _ => rfl) rfl e32) (hc) ?_
  rintro e9 w9 ⟨rfl, hS9, h8⟩
  refine ⟨_, rfl, hK'.out _ _ (hS9) ?_⟩
  replace hHeld := hS9
  clear hK' K'
  show wpAnyH _ _ _ _ _ _ _ (Act.put a1 (some 33) (.bool false)) _
  obtain ⟨s1, f1, n1, k1⟩ := act_put a1 33 (.bool false) (show 33 < _ by rw [hsz]; decide)
  obtain ⟨a2, ha2⟩ : ∃ x, x = Act.put a1 (some 33) (.bool false) := ⟨_, rfl⟩
  rw [← ha2] at s1 f1 n1 k1 ⊢
  replace hsz := s1.trans hsz
  replace hdf := f1.trans hdf
  replace e1 := (k1 1 (by decide)).trans e1
  replace e2 := (k1 2 (by decide)).trans e2
  replace e7 := (k1 7 (by decide)).trans e7
  replace e8 := (k1 8 (by decide)).trans e8
  replace e9 := (k1 9 (by decide)).trans e9
  have e33 := n1
  clear s1 f1 n1 k1
  refine wpAnyH_takes HR.out.sel hQ hHeld [2, 3, 4] 20 _ _ HR.out.may1 ?_
  refine wpTake_stepE ⟨some 34, Op.unOp UnOp.not 4 (Operand.tmp 33), 4, "", #[], none⟩ 34 (.bool true) HR.out.o2 rfl (by rw [hsz]; decide) (wanted_none rfl) (fun z hS => tw_2 g1 g2 cap2 g3 cap3 hcap2 av bv sa sb r hr _ z (fun _ => rfl) e33 hS) ?_
  intro a3 ha3 s1 f1 n1 k1
  replace hsz := s1.trans hsz
  replace hdf := f1.trans hdf
  replace e1 := (k1 1 (by decide)).trans e1
  replace e2 := (k1 2 (by decide)).trans e2
  replace e7 := (k1 7 (by decide)).trans e7
  replace e8 := (k1 8 (by decide)).trans e8
  replace e9 := (k1 9 (by decide)).trans e9
  have e34 := n1
  clear s1 f1 n1 k1
  refine wpTake_stepE ⟨some 35, Op.move (Operand.tmp 34), 4, "", #[], none⟩ 35 (.bool true) HR.out.o3 rfl (by rw [hsz]; decide) (wanted_none rfl) (fun z hS => tw_3 g1 g2 cap2 g3 cap3 hcap2 av bv sa sb r hr _ z (fun _ => rfl) e34 hS) ?_
  intro a4 ha4 s1 f1 n1 k1
  replace hsz := s1.trans hsz
  replace hdf := f1.trans hdf
  replace e1 := (k1 1 (by decide)).trans e1
  replace e2 := (k1 2 (by decide)).trans e2
  replace e7 := (k1 7 (by decide)).trans e7
  replace e8 := (k1 8 (by decide)).trans e8
  replace e9 := (k1 9 (by decide)).trans e9
  have e35 := n1
  clear s1 f1 n1 k1
  refine wpTake_stepE ⟨some 36, Op.move (Operand.tmp 8), 22, "", #[], some (3, true)⟩ 36 (.slice (some ⟨g2, 0, none⟩) 4 cap2) HR.out.o4 rfl (by rw [hsz]; decide) (wanted_some rfl (yielded_of HR.out.o3 rfl e35 (by rw [hsz]; decide))) (fun z hS => tw_4 g1 g2 cap2 g3 cap3 hcap2 av bv sa sb r hr _ z (fun _ => rfl) e8 hS) ?_
  intro a5 ha5 s1 f1 n1 k1
  replace hsz := s1.trans hsz
  replace hdf := f1.trans hdf
  replace e1 := (k1 1 (by decide)).trans e1
  replace e2 := (k1 2 (by decide)).trans e2
  replace e7 := (k1 7 (by decide)).trans e7
  replace e8 := (k1 8 (by decide)).trans e8
  replace e9 := (k1 9 (by decide)).trans e9
  replace e35 := (k1 35 (by decide)).trans e35
  have e36 := n1
  clear s1 f1 n1 k1
  refine wpTake_nil ?_
  refine wpAnyH_oneG ⟨some 37, Op.call { callee := Callee.value (Operand.func 12), args := #[Operand.tmp 36], argTypes := #[22] }, 4, "", #[], some (3, true)⟩ HR.out.r5 HR.out.o5 (wanted_some rfl (yielded_of HR.out.o3 rfl e35 (by rw [hsz]; decide))) (fun K' hK' => ?_)
  refine wp_enter (tw_5 g1 g2 cap2 g3 cap3 hcap2 av bv sa sb r hr _ _ (fun _ => rfl) rfl e36) (h8) ?_
  rintro e9 w9 ⟨rfl, hS8, h7⟩
  refine ⟨_, rfl, hK'.out _ _ (hS8) ?_⟩
  replace hHeld := hS8
  clear hK' K'
  show wpAnyH _ _ _ _ _ _ _ (Act.put a5 (some 37) (.bool true)) _
  obtain ⟨s1, f1, n1, k1⟩ := act_put a5 37 (.bool true) (show 37 < _ by rw [hsz]; decide)
  obtain ⟨a6, ha6⟩ : ∃ x, x = Act.put a5 (some 37) (.bool true) := ⟨_, rfl⟩
  rw [← ha6] at s1 f1 n1 k1 ⊢
  replace hsz := s1.trans hsz
  replace hdf := f1.trans hdf
  replace e1 := (k1 1 (by decide)).trans e1
  replace e2 := (k1 2 (by decide)).trans e2
  replace e7 := (k1 7 (by decide)).trans e7
  replace e8 := (k1 8 (by decide)).trans e8
  replace e9 := (k1 9 (by decide)).trans e9
  replace e35 := (k1 35 (by decide)).trans e35
  have e37 := n1
  clear s1 f1 n1 k1
  refine wpAnyH_takes HR.out.sel hQ hHeld [6, 7, 8, 10, 11, 12, 13, 14] 11 _ _ HR.out.may2 ?_
  refine wpTake_stepE ⟨some 38, Op.pick (Operand.tmp 35) (Operand.tmp 37) (Operand.const (Value.bool false)), 4, "", #[], none⟩ 38 (.bool true) HR.out.o6 rfl (by rw [hsz]; decide) (wanted_none rfl) (fun z hS => tw_6 g1 g2 cap2 g3 cap3 hcap2 av bv sa sb r hr _ z (fun _ => rfl) e35 e37 hS) ?_
  intro a7 ha7 s1 f1 n1 k1
  replace hsz := s1.trans hsz
  replace hdf := f1.trans hdf
  replace e1 := (k1 1 (by decide)).trans e1
  replace e2 := (k1 2 (by decide)).trans e2
  replace e7 := (k1 7 (by decide)).trans e7
  replace e8 := (k1 8 (by decide)).trans e8
  replace e9 := (k1 9 (by decide)).trans e9
  have e38 := n1
  clear s1 f1 n1 k1
  refine wpTake_stepE ⟨some 39, Op.move (Operand.tmp 38), 4, "", #[], none⟩ 39 (.bool true) HR.out.o7 rfl (by rw [hsz]; decide) (wanted_none rfl) (fun z hS => tw_7 g1 g2 cap2 g3 cap3 hcap2 av bv sa sb r hr _ z (fun _ => rfl) e38 hS) ?_
  intro a8 ha8 s1 f1 n1 k1
  replace hsz := s1.trans hsz
  replace hdf := f1.trans hdf
  replace e1 := (k1 1 (by decide)).trans e1
  replace e2 := (k1 2 (by decide)).trans e2
  replace e7 := (k1 7 (by decide)).trans e7
  replace e8 := (k1 8 (by decide)).trans e8
  replace e9 := (k1 9 (by decide)).trans e9
  have e39 := n1
  clear s1 f1 n1 k1
  refine wpTake_stepE ⟨some 40, Op.move (Operand.tmp 9), 22, "", #[], some (7, true)⟩ 40 (.slice (some ⟨g3, 0, none⟩) 6 cap3) HR.out.o8 rfl (by rw [hsz]; decide) (wanted_some rfl (yielded_of HR.out.o7 rfl e39 (by rw [hsz]; decide))) (fun z hS => tw_8 g1 g2 cap2 g3 cap3 hcap2 av bv sa sb r hr _ z (fun _ => rfl) e9 hS) ?_
  intro a9 ha9 s1 f1 n1 k1
  replace hsz := s1.trans hsz
  replace hdf := f1.trans hdf
  replace e1 := (k1 1 (by decide)).trans e1
  replace e2 := (k1 2 (by decide)).trans e2
  replace e7 := (k1 7 (by decide)).trans e7
  replace e8 := (k1 8 (by decide)).trans e8
  replace e39 := (k1 39 (by decide)).trans e39
  have e40 := n1
  clear s1 f1 n1 k1
  refine wpTake_stepE ⟨some 42, Op.move (Operand.tmp 1), 27, "", #[], some (7, true)⟩ 42 (av) HR.out.o10 rfl (by rw [hsz]; decide) (wanted_some rfl (yielded_of HR.out.o7 rfl e39 (by rw [hsz]; decide))) (fun z hS => tw_10 g1 g2 cap2 g3 cap3 hcap2 av bv sa sb r hr _ z (fun _ => rfl) e1 hS) ?_
  intro a10 ha10 s1 f1 n1 k1
  replace hsz := s1.trans hsz
  replace hdf := f1.trans hdf
  replace e2 := (k1 2 (by decide)).trans e2
  replace e7 := (k1 7 (by decide)).trans e7
  replace e8 := (k1 8 (by decide)).trans e8
  replace e39 := (k1 39 (by decide)).trans e39
  replace e40 := (k1 40 (by decide)).trans e40
  have e42 := n1
  clear s1 f1 n1 k1
  refine wpTake_stepE ⟨some 43, Op.convert 27 9 (Operand.tmp 42), 9, "", #[], some (7, true)⟩ 43 (.string sa) HR.out.o11 rfl (by rw [hsz]; decide) (wanted_some rfl (yielded_of HR.out.o7 rfl e39 (by rw [hsz]; decide))) (fun z hS => tw_11 g1 g2 cap2 g3 cap3 hcap2 av bv sa sb r hr _ z (fun _ => rfl) e42 hS) ?_
  intro a11 ha11 s1 f1 n1 k1
  replace hsz := s1.trans hsz
  replace hdf := f1.trans hdf
  replace e2 := (k1 2 (by decide)).trans e2
  replace e7 := (k1 7 (by decide)).trans e7
  replace e8 := (k1 8 (by decide)).trans e8
  replace e39 := (k1 39 (by decide)).trans e39
  replace e40 := (k1 40 (by decide)).trans e40
  have e43 := n1
  clear s1 f1 n1 k1
  refine wpTake_stepE ⟨some 44, Op.move (Operand.tmp 2), 27, "", #[], some (7, true)⟩ 44 (bv) HR.out.o12 rfl (by rw [hsz]; decide) (wanted_some rfl (yielded_of HR.out.o7 rfl e39 (by rw [hsz]; decide))) (fun z hS => tw_12 g1 g2 cap2 g3 cap3 hcap2 av bv sa sb r hr _ z (fun _ => rfl) e2 hS) ?_
  intro a12 ha12 s1 f1 n1 k1
  replace hsz := s1.trans hsz
  replace hdf := f1.trans hdf
  replace e7 := (k1 7 (by decide)).trans e7
  replace e8 := (k1 8 (by decide)).trans e8
  replace e39 := (k1 39 (by decide)).trans e39
  replace e40 := (k1 40 (by decide)).trans e40
  replace e43 := (k1 43 (by decide)).trans e43
  have e44 := n1
  clear s1 f1 n1 k1
  refine wpTake_stepE ⟨some 45, Op.convert 27 9 (Operand.tmp 44), 9, "", #[], some (7, true)⟩ 45 (.string sb) HR.out.o13 rfl (by rw [hsz]; decide) (wanted_some rfl (yielded_of HR.out.o7 rfl e39 (by rw [hsz]; decide))) (fun z hS => tw_13 g1 g2 cap2 g3 cap3 hcap2 av bv sa sb r hr _ z (fun _ => rfl) e44 hS) ?_
  intro a13 ha13 s1 f1 n1 k1
  replace hsz := s1.trans hsz
  replace hdf := f1.trans hdf
  replace e7 := (k1 7 (by decide)).trans e7
  replace e8 := (k1 8 (by decide)).trans e8
  replace e39 := (k1 39 (by decide)).trans e39
  replace e40 := (k1 40 (by decide)).trans e40
  replace e43 := (k1 43 (by decide)).trans e43
  have e45 := n1
  clear s1 f1 n1 k1
  refine wpTake_stepE ⟨some 46, Op.binOp BinOp.eql 9 (Operand.tmp 43) (Operand.tmp 45) 9, 4, "", #[], some (7, true)⟩ 46 (.bool r) HR.out.o14 rfl (by rw [hsz]; decide) (wanted_some rfl (yielded_of HR.out.o7 rfl e39 (by rw [hsz]; decide))) (fun z hS => tw_14 g1 g2 cap2 g3 cap3 hcap2 av bv sa sb r hr _ z (fun _ => rfl) e43 e45 hS) ?_
  intro a14 ha14 s1 f1 n1 k1
  replace hsz := s1.trans hsz
  replace hdf := f1.trans hdf
  replace e7 := (k1 7 (by decide)).trans e7
  replace e8 := (k1 8 (by decide)).trans e8
  replace e39 := (k1 39 (by decide)).trans e39
  replace e40 := (k1 40 (by decide)).trans e40
  have e46 := n1
  clear s1 f1 n1 k1
  refine wpTake_nil ?_
  refine wpAnyH_oneG ⟨some 41, Op.call { callee := Callee.value (Operand.func 12), args := #[Operand.tmp 40], argTypes := #[22] }, 4, "", #[], some (7, true)⟩ HR.out.r9 HR.out.o9 (wanted_some rfl (yielded_of HR.out.o7 rfl e39 (by rw [hsz]; decide))) (fun K' hK' => ?_)
  refine wp_enter (tw_9 g1 g2 cap2 g3 cap3 hcap2 av bv sa sb r hr _ _ (fun _ => rfl) rfl e40) (h7) ?_
  rintro e9 w9 ⟨rfl, hS7, h6⟩
  refine ⟨_, rfl, hK'.out _ _ (hS7) ?_⟩
  replace hHeld := hS7
  clear hK' K'
  show wpAnyH _ _ _ _ _ _ _ (Act.put a14 (some 41) (.bool r)) _
  obtain ⟨s1, f1, n1, k1⟩ := act_put a14 41 (.bool r) (show 41 < _ by rw [hsz]; decide)
  obtain ⟨a15, ha15⟩ : ∃ x, x = Act.put a14 (some 41) (.bool r) := ⟨_, rfl⟩
  rw [← ha15] at s1 f1 n1 k1 ⊢
  replace hsz := s1.trans hsz
  replace hdf := f1.trans hdf
  replace e7 := (k1 7 (by decide)).trans e7
  replace e8 := (k1 8 (by decide)).trans e8
  replace e39 := (k1 39 (by decide)).trans e39
  replace e46 := (k1 46 (by decide)).trans e46
  have e41 := n1
  clear s1 f1 n1 k1
  refine wpAnyH_takes HR.out.sel hQ hHeld [15, 16, 17, 18, 19, 20, 21] 3 _ _ HR.out.may3 ?_
  refine wpTake_stepE ⟨some 47, Op.binOp BinOp.eql 4 (Operand.tmp 41) (Operand.tmp 46) 4, 4, "", #[], some (7, true)⟩ 47 (.bool true) HR.out.o15 rfl (by rw [hsz]; decide) (wanted_some rfl (yielded_of HR.out.o7 rfl e39 (by rw [hsz]; decide))) (fun z hS => tw_15 g1 g2 cap2 g3 cap3 hcap2 av bv sa sb r hr _ z (fun _ => rfl) e41 e46 hS) ?_
  intro a16 ha16 s1 f1 n1 k1
  replace hsz := s1.trans hsz
  replace hdf := f1.trans hdf
  replace e7 := (k1 7 (by decide)).trans e7
  replace e8 := (k1 8 (by decide)).trans e8
  replace e39 := (k1 39 (by decide)).trans e39
  have e47 := n1
  clear s1 f1 n1 k1
  refine wpTake_stepE ⟨some 48, Op.pick (Operand.tmp 39) (Operand.tmp 47) (Operand.const (Value.bool false)), 4, "", #[], none⟩ 48 (.bool true) HR.out.o16 rfl (by rw [hsz]; decide) (wanted_none rfl) (fun z hS => tw_16 g1 g2 cap2 g3 cap3 hcap2 av bv sa sb r hr _ z (fun _ => rfl) e39 e47 hS) ?_
  intro a17 ha17 s1 f1 n1 k1
  replace hsz := s1.trans hsz
  replace hdf := f1.trans hdf
  replace e7 := (k1 7 (by decide)).trans e7
  replace e8 := (k1 8 (by decide)).trans e8
  have e48 := n1
  clear s1 f1 n1 k1
  refine wpTake_stepE ⟨some 49, Op.move (Operand.tmp 48), 4, "", #[], none⟩ 49 (.bool true) HR.out.o17 rfl (by rw [hsz]; decide) (wanted_none rfl) (fun z hS => tw_17 g1 g2 cap2 g3 cap3 hcap2 av bv sa sb r hr _ z (fun _ => rfl) e48 hS) ?_
  intro a18 ha18 s1 f1 n1 k1
  replace hsz := s1.trans hsz
  replace hdf := f1.trans hdf
  replace e7 := (k1 7 (by decide)).trans e7
  replace e8 := (k1 8 (by decide)).trans e8
  have e49 := n1
  clear s1 f1 n1 k1
  refine wpTake_stepE ⟨some 50, Op.move (Operand.tmp 8), 22, "", #[], some (17, true)⟩ 50 (.slice (some ⟨g2, 0, none⟩) 4 cap2) HR.out.o18 rfl (by rw [hsz]; decide) (wanted_some rfl (yielded_of HR.out.o17 rfl e49 (by rw [hsz]; decide))) (fun z hS => tw_18 g1 g2 cap2 g3 cap3 hcap2 av bv sa sb r hr _ z (fun _ => rfl) e8 hS) ?_
  intro a19 ha19 s1 f1 n1 k1
  replace hsz := s1.trans hsz
  replace hdf := f1.trans hdf
  replace e7 := (k1 7 (by decide)).trans e7
  replace e49 := (k1 49 (by decide)).trans e49
  have e50 := n1
  clear s1 f1 n1 k1
  refine wpTake_stepE ⟨some 51, Op.slice 22 (Operand.tmp 50) none (some (Operand.const (Value.int IntKind.i64 2))) none, 22, "", #[], some (17, true)⟩ 51 (.slice (some ⟨g2, 0, none⟩) 2 cap2) HR.out.o19 rfl (by rw [hsz]; decide) (wanted_some rfl (yielded_of HR.out.o17 rfl e49 (by rw [hsz]; decide))) (fun z hS => tw_19 g1 g2 cap2 g3 cap3 hcap2 av bv sa sb r hr _ z (fun _ => rfl) e50 hS) ?_
  intro a20 ha20 s1 f1 n1 k1
  replace hsz := s1.trans hsz
  replace hdf := f1.trans hdf
  replace e7 := (k1 7 (by decide)).trans e7
  replace e49 := (k1 49 (by decide)).trans e49
  have e51 := n1
  clear s1 f1 n1 k1
  refine wpTake_stepE ⟨some 52, Op.move (Operand.tmp 7), 22, "", #[], some (17, true)⟩ 52 (.slice (some ⟨g1, 0, none⟩) 4 4) HR.out.o20 rfl (by rw [hsz]; decide) (wanted_some rfl (yielded_of HR.out.o17 rfl e49 (by rw [hsz]; decide))) (fun z hS => tw_20 g1 g2 cap2 g3 cap3 hcap2 av bv sa sb r hr _ z (fun _ => rfl) e7 hS) ?_
  intro a21 ha21 s1 f1 n1 k1
  replace hsz := s1.trans hsz
  replace hdf := f1.trans hdf
  replace e49 := (k1 49 (by decide)).trans e49
  replace e51 := (k1 51 (by decide)).trans e51
  have e52 := n1
  clear s1 f1 n1 k1
  refine wpTake_stepE ⟨some 53, Op.slice 22 (Operand.tmp 52) none (some (Operand.const (Value.int IntKind.i64 2))) none, 22, "", #[], some (17, true)⟩ 53 (.slice (some ⟨g1, 0, none⟩) 2 4) HR.out.o21 rfl (by rw [hsz]; decide) (wanted_some rfl (yielded_of HR.out.o17 rfl e49 (by rw [hsz]; decide))) (fun z hS => tw_21 g1 g2 cap2 g3 cap3 hcap2 av bv sa sb r hr _ z (fun _ => rfl) e52 hS) ?_
  intro a22 ha22 s1 f1 n1 k1
  replace hsz := s1.trans hsz
  replace hdf := f1.trans hdf
  replace e49 := (k1 49 (by decide)).trans e49
  replace e51 := (k1 51 (by decide)).trans e51
  have e53 := n1
  clear s1 f1 n1 k1
  refine wpTake_nil ?_
  refine wpAnyH_oneG ⟨some 54, Op.call { callee := Callee.value (Operand.func 16), args := #[Operand.tmp 51, Operand.tmp 53], argTypes := #[22, 22] }, 4, "", #[], some (17, true)⟩ HR.out.r22 HR.out.o22 (wanted_some rfl (yielded_of HR.out.o17 rfl e49 (by rw [hsz]; decide))) (fun K' hK' => ?_)
  refine wp_enter (tw_22 g1 g2 cap2 g3 cap3 hcap2 av bv sa sb r hr _ _ (fun _ => rfl) rfl e51 e53) (h6) ?_
  rintro e9 w9 ⟨rfl, hS6, hT⟩
  refine ⟨_, rfl, hK'.out _ _ (hS6) ?_⟩
  replace hHeld := hS6
  clear hK' K'
  show wpAnyH _ _ _ _ _ _ _ (Act.put a22 (some 54) (.bool true)) _
  obtain ⟨s1, f1, n1, k1⟩ := act_put a22 54 (.bool true) (show 54 < _ by rw [hsz]; decide)
  obtain ⟨a23, ha23⟩ : ∃ x, x = Act.put a22 (some 54) (.bool true) := ⟨_, rfl⟩
  rw [← ha23] at s1 f1 n1 k1 ⊢
  replace hsz := s1.trans hsz
  replace hdf := f1.trans hdf
  replace e49 := (k1 49 (by decide)).trans e49
  have e54 := n1
  clear s1 f1 n1 k1
  refine wpAnyH_takes HR.out.sel hQ hHeld [23, 24] 0 _ _ HR.out.may4 ?_
  refine wpTake_stepE ⟨some 55, Op.pick (Operand.tmp 49) (Operand.tmp 54) (Operand.const (Value.bool false)), 4, "", #[], none⟩ 55 (.bool true) HR.out.o23 rfl (by rw [hsz]; decide) (wanted_none rfl) (fun z hS => tw_23 g1 g2 cap2 g3 cap3 hcap2 av bv sa sb r hr _ z (fun _ => rfl) e49 e54 hS) ?_
  intro a24 ha24 s1 f1 n1 k1
  replace hsz := s1.trans hsz
  replace hdf := f1.trans hdf
  have e55 := n1
  clear s1 f1 n1 k1
  refine wpTake_stepE ⟨some 6, Op.assign (Operand.tmp 55), 4, "", #[], none⟩ 6 (.bool true) HR.out.o24 rfl (by rw [hsz]; decide) (wanted_none rfl) (fun z hS => tw_24 g1 g2 cap2 g3 cap3 hcap2 av bv sa sb r hr _ z (fun _ => rfl) e55 hS) ?_
  intro a25 ha25 s1 f1 n1 k1
  replace hsz := s1.trans hsz
  replace hdf := f1.trans hdf
  clear s1 f1 n1 k1
  refine wpTake_nil ?_
  refine wpAnyH_done HR.out.fin ?_ _
  rw [ha25, ha24, ha23, ha22, ha21, ha20, ha19, ha18, ha17, ha16, ha15, ha14, ha13, ha12, ha11, ha10, ha9, ha8, ha7, ha6, ha5, ha4, ha3, ha2, ha1]
  exact hK _ hT
-- R: ⟨by kernel_rfl, by kernel_rfl, by kernel_rfl, by kernel_rfl, by kernel_rfl, by kernel_rfl, by kernel_rfl, by kernel_rfl, by kernel_rfl, by kernel_rfl, by kernel_rfl, by kernel_rfl, by kernel_rfl, by kernel_rfl, by kernel_rfl, by kernel_rfl, by kernel_rfl, by kernel_rfl, by kernel_rfl, by kernel_rfl, by kernel_rfl, by kernel_rfl, by kernel_rfl, by kernel_rfl, by kernel_rfl, by kernel_rfl, by kernel_rfl, by kernel_rfl, by kernel_rfl, by kernel_rfl, by kernel_rfl, by kernel_rfl, by kernel_rfl, by kernel_rfl, by kernel_rfl, by kernel_rfl, by kernel_rfl⟩


abbrev twL (key : ByteArray) (p1 : Option Addr) (n1 c1 : Nat) (xs1 : List Nat) (p2 : Option Addr) (n2 c2 : Nat) (xs2 : List Nat) (s : Int) : List Ev := [⟨false, 1, 1, key, ⟨.slice p1 n1 c1, xs1⟩⟩, ⟨false, 2, 1, key, ⟨.slice p2 n2 c2, xs2⟩⟩, ⟨true, 1, 1, noKey, by0⟩, ⟨true, 2, s, noKey, by0⟩]
abbrev rdL (key : ByteArray) (p1 : Option Addr) (n1 c1 : Nat) (xs1 : List Nat) (p2 : Option Addr) (n2 c2 : Nat) (xs2 : List Nat) : List Ev := [⟨false, 1, 1, key, ⟨.slice p1 n1 c1, xs1⟩⟩, ⟨false, 2, 1, key, ⟨.slice p2 n2 c2, xs2⟩⟩, ⟨true, 1, 1, noKey, by0⟩, ⟨true, 2, 2, noKey, by0⟩, ⟨false, 3, 2, key, by0⟩, ⟨true, 3, 1, noKey, ⟨.slice p2 n2 c2, xs2⟩⟩]
theorem twL_ok (key : ByteArray) (p1 : Option Addr) (n1 c1 : Nat) (xs1 : List Nat) (p2 : Option Addr) (n2 c2 : Nat) (xs2 : List Nat) (s : Int) (w : World) (hk : key.size ≤ maxLen) (h1 : (⟨.slice p1 n1 c1, xs1⟩ : By).ok w) (h2 : (⟨.slice p2 n2 c2, xs2⟩ : By).ok w) : ∀ e ∈ twL key p1 n1 c1 xs1 p2 n2 c2 xs2 s, e.ok w := fun e he => by
  simp only [List.mem_cons, List.not_mem_nil, or_false] at he
  rcases he with rfl | rfl | rfl | rfl
  · exact ⟨h1, by dsimp only; omega, hk⟩
  · exact ⟨h2, by dsimp only; omega, hk⟩
  · exact ⟨by0_ok w, by dsimp only; omega, Nat.zero_le _⟩
  · exact ⟨by0_ok w, by dsimp only; omega, Nat.zero_le _⟩
theorem rdL_ok (key : ByteArray) (p1 : Option Addr) (n1 c1 : Nat) (xs1 : List Nat) (p2 : Option Addr) (n2 c2 : Nat) (xs2 : List Nat) (w : World) (hk : key.size ≤ maxLen) (h1 : (⟨.slice p1 n1 c1, xs1⟩ : By).ok w) (h2 : (⟨.slice p2 n2 c2, xs2⟩ : By).ok w) : ∀ e ∈ rdL key p1 n1 c1 xs1 p2 n2 c2 xs2, e.ok w := fun e he => by
  simp only [List.mem_cons, List.not_mem_nil, or_false] at he
  rcases he with rfl | rfl | rfl | rfl | rfl | rfl
  · exact ⟨h1, by dsimp only; omega, hk⟩
  · exact ⟨h2, by dsimp only; omega, hk⟩
  · exact ⟨by0_ok w, by dsimp only; omega, Nat.zero_le _⟩
  · exact ⟨by0_ok w, by dsimp only; omega, Nat.zero_le _⟩
  · exact ⟨by0_ok w, by dsimp only; omega, hk⟩
  · exact ⟨h2, by dsimp only; omega, Nat.zero_le _⟩
/-- a list, and a copy of it of one's own -/
structure TwA (key : ByteArray) (p1 : Option Addr) (n1 c1 : Nat) (xs1 : List Nat) (p2 : Option Addr) (n2 c2 : Nat) (xs2 : List Nat) (s : Int) (w u : World) (g2 cap2 : Nat) : Prop where
  o : u.ownsRow (w.heap.size + 1) 29 5 (.slice (some ⟨g2, 0, none⟩) 4 cap2) 4 (eflat (twL key p1 n1 c1 xs1 p2 n2 c2 xs2 s))
  k : Kp (fun _ => False) w u
  f : Fl u (fun b => b = w.heap.size) (some ⟨w.heap.size, 0, none⟩) (eflat (twL key p1 n1 c1 xs1 p2 n2 c2 xs2 1))
  c : 4 ≤ cap2
set_option maxRecDepth 100000 in
theorem tw_app1 (key : ByteArray) (p1 : Option Addr) (n1 c1 : Nat) (xs1 : List Nat) (p2 : Option Addr) (n2 c2 : Nat) (xs2 : List Nat) (w : World) (hk : key.size ≤ maxLen) (hA : (⟨.slice p1 n1 c1, xs1⟩ : By).ok w) (hB : (⟨.slice p2 n2 c2, xs2⟩ : By).ok w) {ops : Array Oper} {rest : List Oper} {op : Oper} {a : Act} {Q : Exit → Act → World → Prop} (hgd : op.guard = none) (o1 o2 : Operand) (ho : op.op = .call { callee := .builtin .append, args := #[o1, o2], argTypes := #[22, 22] }) (h1 : a.eval o1 = .slice (some ⟨w.heap.size + 1, 0, none⟩) 0 0) (h2 : a.eval o2 = .slice (some ⟨w.heap.size, 0, none⟩) 4 4)
    (hK : ∀ g2 cap2 w3, TwA key p1 n1 c1 xs1 p2 n2 c2 xs2 1 w w3 g2 cap2 → wpList Try.prog ops Q rest (a.put op.dst (.slice (some ⟨g2, 0, none⟩) 4 cap2)) w3) :
    wpList Try.prog ops Q (op :: rest) a ((w.alloc (.cells #[.bool false, .int .i64 1, .int .i64 1, .string key, .slice p1 n1 c1, .bool false, .int .i64 2, .int .i64 1, .string key, .slice p2 n2 c2, .bool true, .int .i64 1, .int .i64 1, .string ⟨#[]⟩, .slice none 0 0, .bool true, .int .i64 2, .int .i64 1, .string ⟨#[]⟩, .slice none 0 0] 29)).alloc (.cells #[] 29)) := by
  obtain ⟨w1, hw1⟩ : ∃ x, x = w.alloc (.cells #[.bool false, .int .i64 1, .int .i64 1, .string key, .slice p1 n1 c1, .bool false, .int .i64 2, .int .i64 1, .string key, .slice p2 n2 c2, .bool true, .int .i64 1, .int .i64 1, .string ⟨#[]⟩, .slice none 0 0, .bool true, .int .i64 2, .int .i64 1, .string ⟨#[]⟩, .slice none 0 0] 29) := ⟨_, rfl⟩
  have l1 : Lv w1 w.heap.size (eflat (twL key p1 n1 c1 xs1 p2 n2 c2 xs2 1)) := by rw [hw1]; exact Lv.new w _ _
  have k1 : Kp (fun _ => False) w w1 := by rw [hw1]; exact (Kp.refl _ _).alloc _
  have z1 : w1.heap.size = w.heap.size + 1 := by rw [hw1]; simp
  rw [← hw1]
  have k2 : Kp (fun _ => False) w1 (w1.alloc (.cells #[] 29)) := (Kp.refl _ _).alloc _
  have l2 := l1.keep k2 id
  have z2 : (w1.alloc (.cells #[] 29)).heap.size = w.heap.size + 2 := by simp; omega
  have hone := eflat_one1 (twL_ok key p1 n1 c1 xs1 p2 n2 c2 xs2 1 w hk hA hB)
  refine wpList_app_es _ hgd o1 o2 ho (w.heap.size + 1) (.slice (some ⟨w.heap.size + 1, 0, none⟩) 0 0) 0 [] h1 (by rw [← z1]; exact World.ownsRow_made w1 #[] 0 (Nat.le_refl _) (by unfold maxLen; omega) rfl) _ 4 (eflat (twL key p1 n1 c1 xs1 p2 n2 c2 xs2 1)) h2 (Src.ofSlice _ Try.underlying22 ⟨w.heap.size, 0, none⟩ 4 4 (eflat (twL key p1 n1 c1 xs1 p2 n2 c2 xs2 1)) rfl (fun j u hj => by rw [Addr.add_mid, Nat.zero_add]; exact l2.cell hj) hone) (by omega) (by omega) ?_
  intro v' w3 ho3 hg3
  rw [List.nil_append] at ho3
  have kk : Kp (fun b => b = w.heap.size + 1) (w1.alloc (.cells #[] 29)) w3 := by
    rcases hg3 with ⟨h, _⟩ | h
    · exact (grownBy_kp h).mono (fun b _ e => (Option.some.inj (show some (w.heap.size + 1) = some b from e)).symm)
    · exact (grownBy_kp h).mono (fun b _ e => by cases e)
  rcases Joins.ownsRow_forms ho3 with ⟨_, e2⟩ | ⟨g2, cap2, hav⟩
  · omega
  subst hav
  have hcap : 4 ≤ cap2 := by
    rcases ho3.2 with ⟨h0, _⟩ | ⟨g', cap', cur, hv, hg, hh, hn, hcap, hsz, htake⟩
    · cases h0
    · cases hv; exact hn
  refine hK g2 cap2 w3 ⟨ho3, (k1.trans k2 (fun _ _ e => e)).trans kk (fun b hb e => by omega), fun j u hj => ?_, hcap⟩
  have := (l2.keep kk (fun e => by omega)).cell hj
  exact ⟨w.heap.size, 0, rfl, rfl, by rw [Nat.zero_add]; exact this⟩
theorem TwA.put {key : ByteArray} {p1 : Option Addr} {n1 c1 : Nat} {xs1 : List Nat} {p2 : Option Addr} {n2 c2 : Nat} {xs2 : List Nat} {w u : World} {g2 cap2 : Nat} (h : TwA key p1 n1 c1 xs1 p2 n2 c2 xs2 1 w u g2 cap2) : TwA key p1 n1 c1 xs1 p2 n2 c2 xs2 2 w (u.setCell ⟨g2, 17, none⟩ (.int .i64 2)) g2 cap2 ∧ u.cell? ⟨g2, 17, none⟩ = some (.int .i64 1) ∧ u.frozen? ⟨g2, 17, none⟩ = false := by
  have hg := (ownBlock_lt h.o (g := g2) rfl)
  have ks : Kp (fun b => b = g2) u (u.setCell ⟨g2, 17, none⟩ (.int .i64 2)) := (Kp.refl (fun b => b = g2) u).setCell (fun _ => rfl) _
  refine ⟨⟨own_put h.o 17 (.int .i64 2) (by rw [eflat_len]; show 17 < 4 * 5; omega), h.k.trans ks (fun b hb e => by omega), h.f.keep ks (fun b hb e => by omega), h.c⟩, own_cl h.o rfl, own_fz h.o 17⟩
/-- all three lists -/
structure TwC (key : ByteArray) (p1 : Option Addr) (n1 c1 : Nat) (xs1 : List Nat) (p2 : Option Addr) (n2 c2 : Nat) (xs2 : List Nat) (w u : World) (g2 cap2 g3 cap3 : Nat) : Prop where
  k : Kp (fun _ => False) w u
  f1 : Fl u (fun _ => True) (some ⟨w.heap.size, 0, none⟩) (eflat (twL key p1 n1 c1 xs1 p2 n2 c2 xs2 1))
  f2 : Fl u (fun _ => True) (some ⟨g2, 0, none⟩) (eflat (twL key p1 n1 c1 xs1 p2 n2 c2 xs2 2))
  f3 : Fl u (fun _ => True) (some ⟨g3, 0, none⟩) (eflat (rdL key p1 n1 c1 xs1 p2 n2 c2 xs2))
set_option maxRecDepth 100000 in
theorem tw_app2 (key : ByteArray) (p1 : Option Addr) (n1 c1 : Nat) (xs1 : List Nat) (p2 : Option Addr) (n2 c2 : Nat) (xs2 : List Nat) (w w4 : World) (g2 cap2 : Nat) (h : TwA key p1 n1 c1 xs1 p2 n2 c2 xs2 2 w w4 g2 cap2) (hk : key.size ≤ maxLen) (hA : (⟨.slice p1 n1 c1, xs1⟩ : By).ok w) (hB : (⟨.slice p2 n2 c2, xs2⟩ : By).ok w) {ops : Array Oper} {rest : List Oper} {op : Oper} {a : Act} {Q : Exit → Act → World → Prop} (hgd : op.guard = none) (o1 o2 : Operand) (ho : op.op = .call { callee := .builtin .append, args := #[o1, o2], argTypes := #[22, 22] }) (h1 : a.eval o1 = .slice (some ⟨g2, 0, none⟩) 4 cap2) (z4 : Nat) (hz4 : w4.heap.size = z4) (h2 : a.eval o2 = .slice (some ⟨z4, 0, none⟩) 2 2)
    (hK : ∀ g3 cap3 w5, TwC key p1 n1 c1 xs1 p2 n2 c2 xs2 w w5 g2 cap2 g3 cap3 → wpList Try.prog ops Q rest (a.put op.dst (.slice (some ⟨g3, 0, none⟩) 6 cap3)) w5) :
    wpList Try.prog ops Q (op :: rest) a (w4.alloc (.cells #[.bool false, .int .i64 3, .int .i64 2, .string key, .slice none 0 0, .bool true, .int .i64 3, .int .i64 1, .string ⟨#[]⟩, .slice p2 n2 c2] 29)) := by
  have hg := (ownBlock_lt h.o (g := g2) rfl)
  have l1 : Lv (w4.alloc (.cells #[.bool false, .int .i64 3, .int .i64 2, .string key, .slice none 0 0, .bool true, .int .i64 3, .int .i64 1, .string ⟨#[]⟩, .slice p2 n2 c2] 29)) w4.heap.size [.bool false, .int .i64 3, .int .i64 2, .string key, .slice none 0 0, .bool true, .int .i64 3, .int .i64 1, .string ⟨#[]⟩, .slice p2 n2 c2] := Lv.new w4 _ _
  have k1 : Kp (fun _ => False) w4 (w4.alloc (.cells #[.bool false, .int .i64 3, .int .i64 2, .string key, .slice none 0 0, .bool true, .int .i64 3, .int .i64 1, .string ⟨#[]⟩, .slice p2 n2 c2] 29)) := (Kp.refl _ _).alloc _
  have hs := h.k.size
  have z1 : (w4.alloc (.cells #[.bool false, .int .i64 3, .int .i64 2, .string key, .slice none 0 0, .bool true, .int .i64 3, .int .i64 1, .string ⟨#[]⟩, .slice p2 n2 c2] 29)).heap.size = w4.heap.size + 1 := by simp
  have hone : ∀ u ∈ ([.bool false, .int .i64 3, .int .i64 2, .string key, .slice none 0 0, .bool true, .int .i64 3, .int .i64 1, .string ⟨#[]⟩, .slice p2 n2 c2] : List Value), u.oneCell' = true := fun u hu => by
    have := eflat_one1 (rdL_ok key p1 n1 c1 xs1 p2 n2 c2 xs2 w hk hA hB) u (by
      show u ∈ eflat (twL key p1 n1 c1 xs1 p2 n2 c2 xs2 2) ++ [.bool false, .int .i64 3, .int .i64 2, .string key, .slice none 0 0, .bool true, .int .i64 3, .int .i64 1, .string ⟨#[]⟩, .slice p2 n2 c2]
      exact List.mem_append_right _ hu)
    exact this
  have oo := ownsRow_keep h.o k1 (fun _ _ => id)
  refine wpList_app_es _ hgd o1 o2 ho (w.heap.size + 1) (.slice (some ⟨g2, 0, none⟩) 4 cap2) 4 (eflat (twL key p1 n1 c1 xs1 p2 n2 c2 xs2 2)) h1 oo _ 2 [.bool false, .int .i64 3, .int .i64 2, .string key, .slice none 0 0, .bool true, .int .i64 3, .int .i64 1, .string ⟨#[]⟩, .slice p2 n2 c2] (by rw [← hz4] at h2; exact h2) (Src.ofSlice _ Try.underlying22 ⟨w4.heap.size, 0, none⟩ 2 2 [.bool false, .int .i64 3, .int .i64 2, .string key, .slice none 0 0, .bool true, .int .i64 3, .int .i64 1, .string ⟨#[]⟩, .slice p2 n2 c2] rfl (fun j u hj => by rw [Addr.add_mid, Nat.zero_add]; exact l1.cell hj) hone) (by omega) (by omega) ?_
  intro v' w5 ho5 hg5
  have heq : eflat (twL key p1 n1 c1 xs1 p2 n2 c2 xs2 2) ++ [.bool false, .int .i64 3, .int .i64 2, .string key, .slice none 0 0, .bool true, .int .i64 3, .int .i64 1, .string ⟨#[]⟩, .slice p2 n2 c2] = eflat (rdL key p1 n1 c1 xs1 p2 n2 c2 xs2) := rfl
  rw [heq] at ho5
  have kk : Kp (fun b => b = g2) (w4.alloc (.cells #[.bool false, .int .i64 3, .int .i64 2, .string key, .slice none 0 0, .bool true, .int .i64 3, .int .i64 1, .string ⟨#[]⟩, .slice p2 n2 c2] 29)) w5 := by
    rcases hg5 with ⟨h, _⟩ | h
    · exact (grownBy_kp h).mono (fun b _ e => (Option.some.inj (show some g2 = some b from e)).symm)
    · exact (grownBy_kp h).mono (fun b _ e => by cases e)
  rcases Joins.ownsRow_forms ho5 with ⟨_, e2⟩ | ⟨g3, cap3, hav⟩
  · omega
  subst hav
  refine hK g3 cap3 w5 ⟨(h.k.trans k1 (fun _ _ e => e)).trans kk (fun b hb e => by omega), ((h.f.keep k1 (fun _ _ => id)).keep kk (fun b hb e => by omega)).mono (fun _ _ => trivial), ?_, fun j u hj => ⟨g3, 0, rfl, trivial, by rw [Nat.zero_add]; exact own_cl ho5 hj⟩⟩
  rcases hg5 with ⟨_, hb⟩ | hgn
  · have hgg : g3 = g2 := Option.some.inj (show some g3 = some g2 from hb)
    subst hgg
    intro j u hj
    have hjl : j < (eflat (twL key p1 n1 c1 xs1 p2 n2 c2 xs2 2)).length := (List.getElem?_eq_some_iff.1 hj).1
    have : (eflat (rdL key p1 n1 c1 xs1 p2 n2 c2 xs2))[j]? = some u := by rw [← heq, List.getElem?_append_left hjl]; exact hj
    exact ⟨g3, 0, rfl, trivial, by rw [Nat.zero_add]; exact own_cl ho5 this⟩
  · have kn : Kp (fun _ => False) (w4.alloc (.cells #[.bool false, .int .i64 3, .int .i64 2, .string key, .slice none 0 0, .bool true, .int .i64 3, .int .i64 1, .string ⟨#[]⟩, .slice p2 n2 c2] 29)) w5 := (grownBy_kp hgn).mono (fun b _ e => by cases e)
    intro j u hj
    exact ⟨g2, 0, rfl, trivial, by rw [Nat.zero_add]; exact own_cl (ownsRow_keep oo kn (fun _ _ => id)) hj⟩

set_option maxRecDepth 100000 in
set_option maxHeartbeats 6400000 in
theorem historyTwice_walk (key : ByteArray) (p1 : Option Addr) (n1 c1 : Nat) (xs1 : List Nat) (p2 : Option Addr) (n2 c2 : Nat) (xs2 : List Nat) (w : World) (hk : key.size ≤ maxLen) (r1 : Rb w p1 n1 xs1) (lc1 : n1 ≤ c1) (sz1 : Hid (n1 ≤ 140737488355328)) (r2 : Rb w p2 n2 xs2) (lc2 : n2 ≤ c2) (sz2 : Hid (n2 ≤ 140737488355328)) :
    Calls Try.prog 8 #[.string key, .slice p1 n1 c1, .slice p2 n2 c2] w fun e w' => e = .returned (.bool true) ∧ Kp (fun _ => False) w w' := by
  have hA : (⟨.slice p1 n1 c1, xs1⟩ : By).ok w := ⟨⟨p1, c1, by rw [← r1.len], by rw [r1.len]; exact r1⟩, by rw [r1.len]; exact sz1.out⟩
  have hB : (⟨.slice p2 n2 c2, xs2⟩ : By).ok w := ⟨⟨p2, c2, by rw [← r2.len], by rw [r2.len]; exact r2⟩, by rw [r2.len]; exact sz2.out⟩
  have HK : Hid (key.size ≤ maxLen) := hk
  have HA : Hid ((⟨.slice p1 n1 c1, xs1⟩ : By).ok w) := hA
  have HB : Hid ((⟨.slice p2 n2 c2, xs2⟩ : By).ok w) := hB
  have HR1 : Hid (Rb w p1 n1 xs1) := r1
  have HR2 : Hid (Rb w p2 n2 xs2) := r2
  clear hk r1 lc1 sz1 r2 lc2 sz2 hA hB
  go_enter Try.func8, Try.ntmps8
  go_wp2_with (first
    | (at_builtin; refine tw_app1 key p1 n1 c1 xs1 p2 n2 c2 xs2 w HK.out HA.out HB.out rfl _ _ rfl rfl rfl ?_; intro g2 cap2 w3 h3; obtain ⟨h4, c17, f17⟩ := h3.put; have HT4 : Hid (TwA key p1 n1 c1 xs1 p2 n2 c2 xs2 2 w (w3.setCell ⟨g2, 17, none⟩ (.int .i64 2)) g2 cap2) := h4; clear h3 h4)
    | (at_builtin; refine tw_app2 key p1 n1 c1 xs1 p2 n2 c2 xs2 w (w3.setCell ⟨g2, 17, none⟩ (.int .i64 2)) g2 cap2 HT4.out HK.out HA.out HB.out rfl _ _ rfl rfl w3.heap.size (by simp) rfl ?_; intro g3 cap3 w5 h5; have HT5 : Hid (TwC key p1 n1 c1 xs1 p2 n2 c2 xs2 w w5 g2 cap2 g3 cap3) := h5; clear h5))
  have hcap2 := HT4.out.c
  have kd : Kp (fun _ => False) w5 w5.drew := (Kp.refl _ _).drew
  have HS : ∀ u, Kp (fun _ => False) w5 u → ((convert 27 9 (.slice p1 n1 c1)).run Try.prog u = .ok (.string (str xs1)) u ∧ (convert 27 9 (.slice p2 n2 c2)).run Try.prog u = .ok (.string (str xs2)) u) := fun u ku => ⟨convert_bytes p1 n1 c1 xs1 u ((HR1.out.keep0 HT5.out.k).keep0 ku), convert_bytes p2 n2 c2 xs2 u ((HR2.out.keep0 HT5.out.k).keep0 ku)⟩
  have okT : ∀ s u, Kp (fun _ => False) w5 u → ∀ e ∈ twL key p1 n1 c1 xs1 p2 n2 c2 xs2 s, e.ok u := fun s u ku e he => (twL_ok key p1 n1 c1 xs1 p2 n2 c2 xs2 s w HK.out HA.out HB.out e he).keep (HT5.out.k.trans ku (fun _ _ e => e))
  have okR : ∀ u, Kp (fun _ => False) w5 u → ∀ e ∈ rdL key p1 n1 c1 xs1 p2 n2 c2 xs2, e.ok u := fun u ku e he => (rdL_ok key p1 n1 c1 xs1 p2 n2 c2 xs2 w HK.out HA.out HB.out e he).keep (HT5.out.k.trans ku (fun _ _ e => e))
  have C1 : ∀ u, Kp (fun _ => False) w5 u → _ := fun u ku => check_ok _ (some ⟨w.heap.size, 0, none⟩) 4 (twL key p1 n1 c1 xs1 p2 n2 c2 xs2 1) u (HT5.out.f1.keep ku (fun _ _ => id)) (okT 1 u ku) (show 4 ≤ 900 by omega)
  have C2 : ∀ u, Kp (fun _ => False) w5 u → _ := fun u ku => check_ok _ (some ⟨g2, 0, none⟩) cap2 (twL key p1 n1 c1 xs1 p2 n2 c2 xs2 2) u (HT5.out.f2.keep ku (fun _ _ => id)) (okT 2 u ku) (show 4 ≤ 900 by omega)
  have C3 : ∀ u, Kp (fun _ => False) w5 u → _ := fun u ku => check_ok _ (some ⟨g3, 0, none⟩) cap3 (rdL key p1 n1 c1 xs1 p2 n2 c2 xs2) u (HT5.out.f3.keep ku (fun _ _ => id)) (okR u ku) (show 6 ≤ 900 by omega)
  have fl2 : ∀ s, eflat (twL key p1 n1 c1 xs1 p2 n2 c2 xs2 s) = eflat ((twL key p1 n1 c1 xs1 p2 n2 c2 xs2 s).take 2) ++ eflat ((twL key p1 n1 c1 xs1 p2 n2 c2 xs2 s).drop 2) := fun s => rfl
  have pre : ∀ s b u, Fl u (fun _ => True) (some ⟨b, 0, none⟩) (eflat (twL key p1 n1 c1 xs1 p2 n2 c2 xs2 s)) → Fl u (fun _ => True) (some ⟨b, 0, none⟩) (eflat ((twL key p1 n1 c1 xs1 p2 n2 c2 xs2 1).take 2)) := fun s b u hf j v hj => hf j v (by
    rw [fl2 s, List.getElem?_append_left (by have := (List.getElem?_eq_some_iff.1 hj).1; exact this)]
    exact hj)
  have C4 : ∀ u, Kp (fun _ => False) w5 u → _ := fun u ku => sameEvs_ok _ _ (some ⟨g2, 0, none⟩) (some ⟨w.heap.size, 0, none⟩) cap2 4 ((twL key p1 n1 c1 xs1 p2 n2 c2 xs2 1).take 2) u (pre 2 g2 u (HT5.out.f2.keep ku (fun _ _ => id))) (pre 1 _ u (HT5.out.f1.keep ku (fun _ _ => id))) (fun e he => okT 1 u ku e (List.mem_of_mem_take he)) (show 2 ≤ 900 by omega)
  have e1 : chk (twL key p1 n1 c1 xs1 p2 n2 c2 xs2 1) = false := chk_two key _ _
  have e2 : chk (twL key p1 n1 c1 xs1 p2 n2 c2 xs2 2) = true := chk_there key _ _
  have e3 : chk (rdL key p1 n1 c1 xs1 p2 n2 c2 xs2) = ((str xs1).toList == (str xs2).toList) := by
    rw [show chk (rdL key p1 n1 c1 xs1 p2 n2 c2 xs2) = decide (xs2 = xs1) from chk_read key _ _]
    by_cases h : xs2 = xs1
    · subst h; simp
    · rw [decide_eq_false h, str_toList_ne2 HR1.out.byte HR2.out.byte (fun e => h e.symm)]
  rw [e1] at C1
  rw [e2] at C2
  rw [e3] at C3
  refine tw_region ⟨by kernel_rfl, by kernel_rfl, by kernel_rfl, by kernel_rfl, by kernel_rfl, by kernel_rfl, by kernel_rfl, by kernel_rfl, by kernel_rfl, by kernel_rfl, by kernel_rfl, by kernel_rfl, by kernel_rfl, by kernel_rfl, by kernel_rfl, by kernel_rfl, by kernel_rfl, by kernel_rfl, by kernel_rfl, by kernel_rfl, by kernel_rfl, by kernel_rfl, by kernel_rfl, by kernel_rfl, by kernel_rfl, by kernel_rfl, by kernel_rfl, by kernel_rfl, by kernel_rfl, by kernel_rfl, by kernel_rfl, by kernel_rfl, by kernel_rfl, by kernel_rfl, by kernel_rfl, by kernel_rfl, by kernel_rfl⟩ w.heap.size g2 cap2 g3 cap3 hcap2 (.slice p1 n1 c1) (.slice p2 n2 c2) (str xs1) (str xs2) _ rfl (fun d _ _ _ _ h => by cases d <;> exact h) (by rfl) (by rfl) (by rfl) (by rfl) (by rfl) (by rfl) (HS _ kd) (fun z => Kp (fun _ => False) w5 z) ((C1 _ kd).mono ?_) ?_
  · rintro f9 w9 ⟨rfl, k9⟩
    have kk9 := kd.trans k9 (fun _ _ e => e)
    refine ⟨rfl, HS _ kk9, (C2 _ kk9).mono ?_⟩
    rintro f8 w8 ⟨rfl, k8⟩
    have kk8 := kk9.trans k8 (fun _ _ e => e)
    refine ⟨rfl, HS _ kk8, (C3 _ kk8).mono ?_⟩
    rintro f7 w7 ⟨rfl, k7⟩
    have kk7 := kk8.trans k7 (fun _ _ e => e)
    refine ⟨rfl, HS _ kk7, (C4 _ kk7).mono ?_⟩
    rintro f6 w6 ⟨rfl, k6⟩
    exact ⟨rfl, HS _ (kk7.trans k6 (fun _ _ e => e)), kk7.trans k6 (fun _ _ e => e)⟩
  intro w6 k6
  have HK6 : Hid (Kp (fun _ => False) w w6) := HT5.out.k.trans k6 (fun _ _ e => e)
  clear C1 C2 C3 C4 e1 e2 e3 okT okR HS fl2 pre kd k6 hcap2
  simp only [Act.put, List.setIfInBounds_toArray, List.set_cons_succ, List.set_cons_zero]
  go_wp2
  go_ret
  exact ⟨rfl, HK6.out⟩
end Go.Proofs.Ytggffhoagpbcmaa
