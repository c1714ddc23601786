/- Texts of this proof, joined: Aa, Pn. -/
import Derived.Test.YtblaabjjcanifaaGreatDoorMgAA
import Derived.LaidEql
import Derived.Stop.Asserts
/- Errors with a place: errors.Is, fault, number. -/
namespace Go.Proofs.YtblaabjjcanifaaGreatDoor
open Go.RowKit Go.Deep Go.Extern.Stop Go.Stop Go.Extern

/-- an api.Errno as an error -/
abbrev eno (k : Int) : Value := .iface 26 (.int .i64 k)
/-- a Fault -/
abbrev flt (at_ k : Int) : Value := .iface 90 (.agg #[.int .i64 at_, .int .i64 k])

def typeFn : Array Value → Sem Value := Extern.ReflectliteType.typeOf
def cmpFn : Array Value → Sem Value := Extern.ReflectliteType.method fun t => do Extern.Rtype.noPackHeld "Comparable" t; pure (.bool (← typeInfo t).comparable)
theorem isTypeOf (v : Value) (w : World) : (typeFn #[.iface 26 v]).run Tryz.prog w = .ok (.iface 116 (.agg #[typeHandle Tryz.prog 26])) w := by kernel_rfl
theorem isComparable (w : World) : (cmpFn #[.agg #[typeHandle Tryz.prog 26]]).run Tryz.prog w = .ok (.bool true) w := by kernel_rfl
theorem isMethodComparable (v : Value) (w : World) : (Go.method 339 116 v "Comparable").run Tryz.prog w = .ok (156, v) w := by kernel_rfl
theorem noIsF (v : Value) (xT : TypeId) (w : World) : (Instr.typeAssert (.iface 90 v) xT 118 true).run Tryz.prog w = .ok (.tuple #[.nilIface, .bool false]) w := run_typeAssert_lacksB Tryz.underlying118 (by kernel_rfl) (by kernel_rfl) v xT w
theorem noIsE (v : Value) (xT : TypeId) (w : World) : (Instr.typeAssert (.iface 26 v) xT 118 true).run Tryz.prog w = .ok (.tuple #[.nilIface, .bool false]) w := run_typeAssert_lacksB Tryz.underlying118 (by kernel_rfl) (by kernel_rfl) v xT w
theorem hasUnwrapF (v : Value) (xT : TypeId) (w : World) : (Instr.typeAssert (.iface 90 v) xT 121 true).run Tryz.prog w = .ok (.tuple #[.iface 90 v, .bool true]) w := run_typeAssert_hasB Tryz.underlying121 (by kernel_rfl) v xT w
theorem noUnwrapE (v : Value) (xT : TypeId) (w : World) : (Instr.typeAssert (.iface 26 v) xT 121 true).run Tryz.prog w = .ok (.tuple #[.nilIface, .bool false]) w := run_typeAssert_lacksB Tryz.underlying121 (by kernel_rfl) (by kernel_rfl) v xT w
theorem noUnwrapsE (v : Value) (xT : TypeId) (w : World) : (Instr.typeAssert (.iface 26 v) xT 122 true).run Tryz.prog w = .ok (.tuple #[.nilIface, .bool false]) w := run_typeAssert_lacksB Tryz.underlying122 (by kernel_rfl) (by kernel_rfl) v xT w
theorem methodUnwrap (v : Value) (w : World) : (Go.method 339 90 v "Unwrap").run Tryz.prog w = .ok (152, v) w := by kernel_rfl
set_option maxRecDepth 100000 in
theorem nil_eql (w : World) : (binOp .eql 54 .nilIface .nilIface).run Tryz.prog w = .ok (.bool true) w := by rfl

theorem cmpInfo : (Tryz.prog.info? 26).map (·.comparable) = some true := by kernel_rfl
theorem eno_eql (j k : Int) (w : World) : (binOp .eql 54 (eno j) (eno k)).run Tryz.prog w = .ok (.bool (decide (j = k))) w := by
  obtain ⟨i, hi, hcmp⟩ := Option.map_eq_some_iff.1 cmpInfo
  have h : ∀ d : Nat, (Op.equalIn (d + 2) 54 (eno j) (eno k)).run Tryz.prog w = .ok (decide (j = k)) w := fun d => by
    simp [Op.equalIn, run_underlying (P := Tryz.prog) Tryz.underlying54, run_underlying (P := Tryz.prog) Tryz.underlying26, typeInfo, hi, hcmp]
    by_cases hjk : j = k <;> simp [hjk]
  simp only [binOp]
  simp [Op.equal, Op.maxDepth, h 9998]
theorem unwrap_flt (a j : Int) (w : World) : Calls Tryz.prog 152 #[.agg #[.int .i64 a, .int .i64 j]] w fun e w' => e = .returned (eno j) ∧ Kp (fun _ => False) w w' := by
  have k0 : Kp (fun _ => False) w w := Kp.refl _ _
  go_enter Tryz.func152, Tryz.ntmps152
  go_wp2
  go_ret
  exact ⟨rfl, k0.alloc _⟩

set_option maxRecDepth 100000 in
/-- errors.Is of nil -/
theorem is_nil (k : Int) (w : World) : Calls Tryz.prog 16 #[.nilIface, eno k] w fun e w' => e = .returned (.bool false) ∧ w' = w := by
  have hn := run_eql_iface_nil_left (P := Tryz.prog) w 26 (.int .i64 k) Tryz.underlying54
  have hn2 := nil_eql w
  go_enter Tryz.func16, Tryz.ntmps16
  go_wp2
  go_ret
  exact ⟨rfl, rfl⟩

set_option maxRecDepth 100000 in
/-- errors.Is of a Fault -/
theorem is_flt (a j k : Int) (w : World) : Calls Tryz.prog 16 #[flt a j, eno k] w fun e w' => e = .returned (.bool (decide (j = k))) ∧ Kp (fun _ => False) w w' := by
  have hn := run_eql_iface_nil_left (P := Tryz.prog) w 26 (.int .i64 k) Tryz.underlying54
  have h8 := @run_callFunc_extern Tryz.prog 35 _ typeFn Tryz.func35 (by kernel_rfl) (by kernel_rfl) (by kernel_rfl) (by kernel_rfl)
  have h32 := @run_callFunc_extern Tryz.prog 156 _ cmpFn Tryz.func156 (by kernel_rfl) (by kernel_rfl) (by kernel_rfl) (by kernel_rfl)
  have tT := isTypeOf
  have cT := isComparable
  have mR := isMethodComparable
  have nE := noIsE
  have uE := noUnwrapE
  have vE := noUnwrapsE
  have nW := noIsF
  have uW := hasUnwrapF
  have mU := methodUnwrap
  have hty := run_eql_iface_types (P := Tryz.prog) 90 26 (.agg #[.int .i64 a, .int .i64 j]) (.int .i64 k) Tryz.underlying54 (by decide) w
  have hq := eno_eql
  have HU : Hid (∀ u, Calls Tryz.prog 152 #[.agg #[.int .i64 a, .int .i64 j]] u fun e w' => e = .returned (eno j) ∧ Kp (fun _ => False) u w') := fun u => unwrap_flt a j u
  obtain ⟨B, hB⟩ : ∃ B, B = decide (j = k) := ⟨_, rfl⟩
  have hq2 : ∀ u, (binOp .eql 54 (eno j) (eno k)).run Tryz.prog u = .ok (.bool B) u := fun u => by rw [hB]; exact eno_eql j k u
  have hnl : ∀ u, (binOp .eql 54 (eno j) .nilIface).run Tryz.prog u = .ok (.bool false) u := fun u => by kernel_rfl
  rw [← hB]
  clear hB hq
  go_enter Tryz.func16, Tryz.ntmps16
  go_wp2
  refine wp_loop_rounds 2 ?_
  rw [rounds_succ]
  go_wp2_with (go_at_call 152; refine (HU.out _).mono ?_; rintro e w2 ⟨rfl, k2⟩)
  rw [rounds_succ]
  cases B
  · go_wp2
    go_ret
    exact ⟨rfl, k2⟩
  · go_wp2
    go_ret
    exact ⟨rfl, k2⟩

set_option maxRecDepth 100000 in
theorem fault_nil (a : Int) (w : World) : Calls Tryz.prog 52 #[.int .i64 a, .int .i64 0] w fun e w' => e = .returned .nilIface ∧ w' = w := by
  go_enter Tryz.func52, Tryz.ntmps52
  go_wp2
  go_ret
  exact ⟨rfl, rfl⟩

set_option maxRecDepth 100000 in
theorem fault_flt (a k : Int) (hk : ¬ k = 0) (w : World) : Calls Tryz.prog 52 #[.int .i64 a, .int .i64 k] w fun e w' => e = .returned (flt a k) ∧ w' = w := by
  have hk2 : (k == 0) = false := by rw [beq_eq_false_iff_ne]; exact hk
  clear hk
  go_enter Tryz.func52, Tryz.ntmps52
  go_wp2
  go_ret
  exact ⟨rfl, rfl⟩

abbrev fives : Value := .agg #[.int .i64 1, .int .i64 2, .int .i64 4, .int .i64 60, .int .i64 70]
theorem five0 (w : World) : (Instr.index 109 fives (.int .i64 0)).run Tryz.prog w = .ok (.int .i64 1) w := by kernel_rfl
theorem five1 (w : World) : (Instr.index 109 fives (.int .i64 1)).run Tryz.prog w = .ok (.int .i64 2) w := by kernel_rfl
theorem five2 (w : World) : (Instr.index 109 fives (.int .i64 2)).run Tryz.prog w = .ok (.int .i64 4) w := by kernel_rfl
theorem five3 (w : World) : (Instr.index 109 fives (.int .i64 3)).run Tryz.prog w = .ok (.int .i64 60) w := by kernel_rfl
theorem five4 (w : World) : (Instr.index 109 fives (.int .i64 4)).run Tryz.prog w = .ok (.int .i64 70) w := by kernel_rfl

set_option maxRecDepth 100000 in
theorem number_nil (w : World) : Calls Tryz.prog 32 #[.nilIface] w fun e w' => e = .returned (.int .i64 0) ∧ w' = w := by
  have HN : Hid (∀ k, Calls Tryz.prog 16 #[.nilIface, eno k] w fun e w' => e = .returned (.bool false) ∧ w' = w) := fun k => is_nil k w
  have h0 := five0
  have h1 := five1
  have h2 := five2
  have h3 := five3
  have h4 := five4
  go_enter Tryz.func32, Tryz.ntmps32
  go_wp2
  refine wp_loop_rounds 6 ?_
  rw [rounds_succ]
  go_wp2_with (go_at_call 16; refine (HN.out _).mono ?_; rintro e w2 ⟨rfl, rfl⟩)
  rw [rounds_succ]
  go_wp2_with (go_at_call 16; refine (HN.out _).mono ?_; rintro e w3 ⟨rfl, rfl⟩)
  rw [rounds_succ]
  go_wp2_with (go_at_call 16; refine (HN.out _).mono ?_; rintro e w3 ⟨rfl, rfl⟩)
  rw [rounds_succ]
  go_wp2_with (go_at_call 16; refine (HN.out _).mono ?_; rintro e w3 ⟨rfl, rfl⟩)
  rw [rounds_succ]
  go_wp2_with (go_at_call 16; refine (HN.out _).mono ?_; rintro e w3 ⟨rfl, rfl⟩)
  rw [rounds_succ]
  go_wp2
  go_ret
  exact ⟨rfl, rfl⟩
end Go.Proofs.YtblaabjjcanifaaGreatDoor

/- A plate that no call made: the walks of its methods. -/
namespace Go.Proofs.YtblaabjjcanifaaGreatDoor
open Go.RowKit Go.Deep

/-- pv is a plate that no call made -/
def No (w : World) (pv : Value) : Prop := pv = .pointer none ∨ ∃ b, pv = .pointer (some ⟨b, 0, none⟩) ∧ w.cell? ⟨b, 0, none⟩ = some (.int .i64 0)
theorem No.keep {w w' : World} {pv : Value} (h : No w pv) (k : Kp (fun _ => False) w w') : No w' pv := by
  rcases h with h | ⟨b, h, hc⟩
  · exact Or.inl h
  · exact Or.inr ⟨b, h, k.cellv hc id⟩

set_option maxRecDepth 100000 in
set_option maxHeartbeats 400000 in
theorem made_no (pv : Value) (w : World) (h : No w pv) :
    Calls Tryz.prog 48 #[pv] w fun e w' => e = .returned (.bool false) ∧ w' = w := by
  rcases h with rfl | ⟨b, rfl, hc⟩
  · go_enter Tryz.func48, Tryz.ntmps48
    go_wp2
    go_ret
    exact ⟨rfl, rfl⟩
  · go_enter Tryz.func48, Tryz.ntmps48
    go_wp2
    go_ret
    exact ⟨rfl, rfl⟩

set_option maxRecDepth 100000 in
set_option maxHeartbeats 400000 in
theorem state_no (pv : Value) (w : World) (h : No w pv) :
    Calls Tryz.prog 25 #[pv] w fun e w' => e = .returned (.int .i64 2) ∧ w' = w := by
  have H : Hid (Calls _ _ _ w _) := made_no pv w h
  go_enter Tryz.func25, Tryz.ntmps25
  go_wp2_with (go_at_call 48; refine H.out.mono ?_; rintro e w' ⟨rfl, rfl⟩)
  go_ret
  exact ⟨rfl, rfl⟩

set_option maxRecDepth 100000 in
set_option maxHeartbeats 400000 in
theorem has_no (pv : Value) (i : Int) (w : World) (h : No w pv) :
    Calls Tryz.prog 118 #[pv, .int .i64 i] w fun e w' => e = .returned (.int .i64 2) ∧ w' = w := by
  have H : Hid (Calls _ _ _ w _) := state_no pv w h
  go_enter Tryz.func118, Tryz.ntmps118
  go_wp2_with (go_at_call 25; refine H.out.mono ?_; rintro e w' ⟨rfl, rfl⟩)
  go_ret
  exact ⟨rfl, rfl⟩

set_option maxRecDepth 100000 in
set_option maxHeartbeats 400000 in
theorem sectors_no (pv : Value) (w : World) (h : No w pv) :
    Calls Tryz.prog 30 #[pv] w fun e w' => e = .returned (.int .i64 0) ∧ w' = w := by
  have H : Hid (Calls _ _ _ w _) := made_no pv w h
  go_enter Tryz.func30, Tryz.ntmps30
  go_wp2_with (go_at_call 48; refine H.out.mono ?_; rintro e w' ⟨rfl, rfl⟩)
  go_ret
  exact ⟨rfl, rfl⟩

set_option maxRecDepth 100000 in
set_option maxHeartbeats 400000 in
theorem read_no (pv : Value) (i : Int) (w : World) (h : No w pv) :
    Calls Tryz.prog 91 #[pv, .int .i64 i] w fun e w' => e = .returned (.tuple #[.slice none 0 0, .int .i64 2]) ∧ w' = w := by
  have H : Hid (Calls _ _ _ w _) := has_no pv i w h
  go_enter Tryz.func91, Tryz.ntmps91
  go_wp2_with (go_at_call 118; refine H.out.mono ?_; rintro e w' ⟨rfl, rfl⟩)
  go_ret2
  exact ⟨rfl, rfl⟩

set_option maxRecDepth 100000 in
set_option maxHeartbeats 400000 in
theorem write_no (pv : Value) (i : Int) (x : Value) (w : World) (h : No w pv) :
    Calls Tryz.prog 103 #[pv, .int .i64 i, x] w fun e w' => e = .returned (.int .i64 2) ∧ w' = w := by
  have H : Hid (Calls _ _ _ w _) := has_no pv i w h
  go_enter Tryz.func103, Tryz.ntmps103
  go_wp2_with (go_at_call 118; refine H.out.mono ?_; rintro e w' ⟨rfl, rfl⟩)
  go_ret
  exact ⟨rfl, rfl⟩

set_option maxRecDepth 100000 in
set_option maxHeartbeats 400000 in
theorem sync_no (pv : Value) (w : World) (h : No w pv) :
    Calls Tryz.prog 64 #[pv] w fun e w' => e = .returned (.int .i64 2) ∧ w' = w := by
  have H : Hid (Calls _ _ _ w _) := state_no pv w h
  go_enter Tryz.func64, Tryz.ntmps64
  go_wp2_with (go_at_call 25; refine H.out.mono ?_; rintro e w' ⟨rfl, rfl⟩)
  go_ret
  exact ⟨rfl, rfl⟩

set_option maxRecDepth 100000 in
set_option maxHeartbeats 400000 in
theorem image_no (pv : Value) (w : World) (h : No w pv) :
    Calls Tryz.prog 10 #[pv] w fun e w' => e = .returned (.slice none 0 0) ∧ w' = w := by
  have H : Hid (Calls _ _ _ w _) := state_no pv w h
  go_enter Tryz.func10, Tryz.ntmps10
  go_wp2_with (go_at_call 25; refine H.out.mono ?_; rintro e w' ⟨rfl, rfl⟩)
  go_ret
  exact ⟨rfl, rfl⟩

set_option maxRecDepth 100000 in
set_option maxHeartbeats 400000 in
theorem failed_no (pv : Value) (w : World) (h : No w pv) :
    Calls Tryz.prog 49 #[pv] w fun e w' => e = .returned (.bool false) ∧ w' = w := by
  have H : Hid (Calls _ _ _ w _) := state_no pv w h
  go_enter Tryz.func49, Tryz.ntmps49
  go_wp2_with (go_at_call 25; refine H.out.mono ?_; rintro e w' ⟨rfl, rfl⟩)
  go_ret
  exact ⟨rfl, rfl⟩

end Go.Proofs.YtblaabjjcanifaaGreatDoor
