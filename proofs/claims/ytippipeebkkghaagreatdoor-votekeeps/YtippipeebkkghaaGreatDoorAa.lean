/- Errors with a place: errors.Is, fault, number. -/
import Derived.Test.YtippipeebkkghaaGreatDoorKb
import Derived.LaidEql
import Derived.Stop.Asserts
namespace Go.Proofs.YtippipeebkkghaaGreatDoor
open Go.RowKit Go.Deep Go.Extern.Stop Go.Stop Go.Extern

/-- an api.Errno as an error -/
abbrev eno (k : Int) : Value := .iface 37 (.int .i64 k)
/-- a Fault -/
abbrev flt (at_ k : Int) : Value := .iface 143 (.agg #[.int .i64 at_, .int .i64 k])

def typeFn : Array Value → Sem Value := Extern.ReflectliteType.typeOf
def cmpFn : Array Value → Sem Value := Extern.ReflectliteType.method fun t => do Extern.Rtype.noPackHeld "Comparable" t; pure (.bool (← typeInfo t).comparable)
theorem isTypeOf (v : Value) (w : World) : (typeFn #[.iface 37 v]).run Tryz.prog w = .ok (.iface 194 (.agg #[typeHandle Tryz.prog 37])) w := by kernel_rfl
theorem isComparable (w : World) : (cmpFn #[.agg #[typeHandle Tryz.prog 37]]).run Tryz.prog w = .ok (.bool true) w := by kernel_rfl
theorem isMethodComparable (v : Value) (w : World) : (Go.method 448 194 v "Comparable").run Tryz.prog w = .ok (252, v) w := by kernel_rfl
theorem noIsF (v : Value) (xT : TypeId) (w : World) : (Instr.typeAssert (.iface 143 v) xT 196 true).run Tryz.prog w = .ok (.tuple #[.nilIface, .bool false]) w := run_typeAssert_lacksB Tryz.underlying196 (by kernel_rfl) (by kernel_rfl) v xT w
theorem noIsE (v : Value) (xT : TypeId) (w : World) : (Instr.typeAssert (.iface 37 v) xT 196 true).run Tryz.prog w = .ok (.tuple #[.nilIface, .bool false]) w := run_typeAssert_lacksB Tryz.underlying196 (by kernel_rfl) (by kernel_rfl) v xT w
theorem hasUnwrapF (v : Value) (xT : TypeId) (w : World) : (Instr.typeAssert (.iface 143 v) xT 199 true).run Tryz.prog w = .ok (.tuple #[.iface 143 v, .bool true]) w := run_typeAssert_hasB Tryz.underlying199 (by kernel_rfl) v xT w
theorem noUnwrapE (v : Value) (xT : TypeId) (w : World) : (Instr.typeAssert (.iface 37 v) xT 199 true).run Tryz.prog w = .ok (.tuple #[.nilIface, .bool false]) w := run_typeAssert_lacksB Tryz.underlying199 (by kernel_rfl) (by kernel_rfl) v xT w
theorem noUnwrapsE (v : Value) (xT : TypeId) (w : World) : (Instr.typeAssert (.iface 37 v) xT 200 true).run Tryz.prog w = .ok (.tuple #[.nilIface, .bool false]) w := run_typeAssert_lacksB Tryz.underlying200 (by kernel_rfl) (by kernel_rfl) v xT w
theorem methodUnwrap (v : Value) (w : World) : (Go.method 448 143 v "Unwrap").run Tryz.prog w = .ok (248, v) w := by kernel_rfl
set_option maxRecDepth 100000 in
theorem nil_eql (w : World) : (binOp .eql 99 .nilIface .nilIface).run Tryz.prog w = .ok (.bool true) w := by rfl

theorem cmpInfo : (Tryz.prog.info? 37).map (·.comparable) = some true := by kernel_rfl
theorem eno_eql (j k : Int) (w : World) : (binOp .eql 99 (eno j) (eno k)).run Tryz.prog w = .ok (.bool (decide (j = k))) w := by
  obtain ⟨i, hi, hcmp⟩ := Option.map_eq_some_iff.1 cmpInfo
  have h : ∀ d : Nat, (Op.equalIn (d + 2) 99 (eno j) (eno k)).run Tryz.prog w = .ok (decide (j = k)) w := fun d => by
    simp [Op.equalIn, run_underlying (P := Tryz.prog) Tryz.underlying99, run_underlying (P := Tryz.prog) Tryz.underlying37, typeInfo, hi, hcmp]
    by_cases hjk : j = k <;> simp [hjk]
  simp only [binOp]
  simp [Op.equal, Op.maxDepth, h 9998]
theorem unwrap_flt (a j : Int) (w : World) : Calls Tryz.prog 248 #[.agg #[.int .i64 a, .int .i64 j]] w fun e w' => e = .returned (eno j) ∧ Kp (fun _ => False) w w' := by
  have k0 : Kp (fun _ => False) w w := Kp.refl _ _
  go_enter Tryz.func248, Tryz.ntmps248
  go_wp2
  go_ret
  exact ⟨rfl, k0.alloc _⟩

set_option maxRecDepth 100000 in
/-- errors.Is of nil -/
theorem is_nil (k : Int) (w : World) : Calls Tryz.prog 31 #[.nilIface, eno k] w fun e w' => e = .returned (.bool false) ∧ w' = w := by
  have hn := run_eql_iface_nil_left (P := Tryz.prog) w 37 (.int .i64 k) Tryz.underlying99
  have hn2 := nil_eql w
  go_enter Tryz.func31, Tryz.ntmps31
  go_wp2
  go_ret
  exact ⟨rfl, rfl⟩

set_option maxRecDepth 100000 in
/-- errors.Is of a Fault -/
theorem is_flt (a j k : Int) (w : World) : Calls Tryz.prog 31 #[flt a j, eno k] w fun e w' => e = .returned (.bool (decide (j = k))) ∧ Kp (fun _ => False) w w' := by
  have hn := run_eql_iface_nil_left (P := Tryz.prog) w 37 (.int .i64 k) Tryz.underlying99
  have h8 := @run_callFunc_extern Tryz.prog 64 _ typeFn Tryz.func64 (by kernel_rfl) (by kernel_rfl) (by kernel_rfl) (by kernel_rfl)
  have h32 := @run_callFunc_extern Tryz.prog 252 _ cmpFn Tryz.func252 (by kernel_rfl) (by kernel_rfl) (by kernel_rfl) (by kernel_rfl)
  have tT := isTypeOf
  have cT := isComparable
  have mR := isMethodComparable
  have nE := noIsE
  have uE := noUnwrapE
  have vE := noUnwrapsE
  have nW := noIsF
  have uW := hasUnwrapF
  have mU := methodUnwrap
  have hty := run_eql_iface_types (P := Tryz.prog) 143 37 (.agg #[.int .i64 a, .int .i64 j]) (.int .i64 k) Tryz.underlying99 (by decide) w
  have hq := eno_eql
  have HU : Hid (∀ u, Calls Tryz.prog 248 #[.agg #[.int .i64 a, .int .i64 j]] u fun e w' => e = .returned (eno j) ∧ Kp (fun _ => False) u w') := fun u => unwrap_flt a j u
  obtain ⟨B, hB⟩ : ∃ B, B = decide (j = k) := ⟨_, rfl⟩
  have hq2 : ∀ u, (binOp .eql 99 (eno j) (eno k)).run Tryz.prog u = .ok (.bool B) u := fun u => by rw [hB]; exact eno_eql j k u
  have hnl : ∀ u, (binOp .eql 99 (eno j) .nilIface).run Tryz.prog u = .ok (.bool false) u := fun u => by kernel_rfl
  rw [← hB]
  clear hB hq
  go_enter Tryz.func31, Tryz.ntmps31
  go_wp2
  refine wp_loop_rounds 2 ?_
  rw [rounds_succ]
  go_wp2_with (go_at_call 248; refine (HU.out _).mono ?_; rintro e w2 ⟨rfl, k2⟩)
  rw [rounds_succ]
  cases B
  · go_wp2
    go_ret
    exact ⟨rfl, k2⟩
  · go_wp2
    go_ret
    exact ⟨rfl, k2⟩

set_option maxRecDepth 100000 in
theorem fault_nil (a : Int) (w : World) : Calls Tryz.prog 94 #[.int .i64 a, .int .i64 0] w fun e w' => e = .returned .nilIface ∧ w' = w := by
  go_enter Tryz.func94, Tryz.ntmps94
  go_wp2
  go_ret
  exact ⟨rfl, rfl⟩

set_option maxRecDepth 100000 in
theorem fault_flt (a k : Int) (hk : ¬ k = 0) (w : World) : Calls Tryz.prog 94 #[.int .i64 a, .int .i64 k] w fun e w' => e = .returned (flt a k) ∧ w' = w := by
  have hk2 : (k == 0) = false := by rw [beq_eq_false_iff_ne]; exact hk
  clear hk
  go_enter Tryz.func94, Tryz.ntmps94
  go_wp2
  go_ret
  exact ⟨rfl, rfl⟩

abbrev fives : Value := .agg #[.int .i64 1, .int .i64 2, .int .i64 4, .int .i64 60, .int .i64 70]
theorem five0 (w : World) : (Instr.index 187 fives (.int .i64 0)).run Tryz.prog w = .ok (.int .i64 1) w := by kernel_rfl
theorem five1 (w : World) : (Instr.index 187 fives (.int .i64 1)).run Tryz.prog w = .ok (.int .i64 2) w := by kernel_rfl
theorem five2 (w : World) : (Instr.index 187 fives (.int .i64 2)).run Tryz.prog w = .ok (.int .i64 4) w := by kernel_rfl
theorem five3 (w : World) : (Instr.index 187 fives (.int .i64 3)).run Tryz.prog w = .ok (.int .i64 60) w := by kernel_rfl
theorem five4 (w : World) : (Instr.index 187 fives (.int .i64 4)).run Tryz.prog w = .ok (.int .i64 70) w := by kernel_rfl

set_option maxRecDepth 100000 in
theorem number_nil (w : World) : Calls Tryz.prog 61 #[.nilIface] w fun e w' => e = .returned (.int .i64 0) ∧ w' = w := by
  have HN : Hid (∀ k, Calls Tryz.prog 31 #[.nilIface, eno k] w fun e w' => e = .returned (.bool false) ∧ w' = w) := fun k => is_nil k w
  have h0 := five0
  have h1 := five1
  have h2 := five2
  have h3 := five3
  have h4 := five4
  go_enter Tryz.func61, Tryz.ntmps61
  go_wp2
  refine wp_loop_rounds 6 ?_
  rw [rounds_succ]
  go_wp2_with (go_at_call 31; refine (HN.out _).mono ?_; rintro e w2 ⟨rfl, rfl⟩)
  rw [rounds_succ]
  go_wp2_with (go_at_call 31; refine (HN.out _).mono ?_; rintro e w3 ⟨rfl, rfl⟩)
  rw [rounds_succ]
  go_wp2_with (go_at_call 31; refine (HN.out _).mono ?_; rintro e w3 ⟨rfl, rfl⟩)
  rw [rounds_succ]
  go_wp2_with (go_at_call 31; refine (HN.out _).mono ?_; rintro e w3 ⟨rfl, rfl⟩)
  rw [rounds_succ]
  go_wp2_with (go_at_call 31; refine (HN.out _).mono ?_; rintro e w3 ⟨rfl, rfl⟩)
  rw [rounds_succ]
  go_wp2
  go_ret
  exact ⟨rfl, rfl⟩
end Go.Proofs.YtippipeebkkghaaGreatDoor
