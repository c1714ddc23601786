/- A shelf: made, asked, Fenced. -/
import Derived.Test.YtippipeebkkghaaGreatDoorIg
namespace Go.Proofs.YtippipeebkkghaaGreatDoor
set_option linter.unusedVariables false
set_option linter.unusedSimpArgs false
open Go.RowKit Go.Deep Go.Maps

set_option maxRecDepth 100000 in
theorem look_px3f {MT ET : TypeId} {zv : Value} {w : World} {m c : Nat} {T : K3 → Option Value} (hu : Tryz.prog.underlying MT = some (.map 120 ET)) (hz : ∀ w, (zeroValue ET).run Tryz.prog w = .ok zv w) (h : Px3 w m c T) {a : K3} (hw : wf3 a) : (Instr.lookup MT (.map (some m)) (pv3 a) false).run Tryz.prog w = .ok ((T a).getD zv) w := by
  obtain ⟨D, h1, h2⟩ := h
  obtain ⟨e1, e2⟩ := h2.look hw zv
  obtain ⟨v, ps, hrun, hv⟩ := h1.lookup p3Law hu (hz w) (zd := .held zv) (zp := []) rfl (pk3_key hw)
  rw [e2] at hv
  injection hv with hv
  injection hv with hv _
  injection hv with hv
  rw [hrun, hv]

set_option maxRecDepth 100000 in
theorem smade_ok {w : World} {sh g : Nat} (h : w.cell? ⟨sh, 0, none⟩ = some (.pointer (some ⟨g, 0, none⟩))) :
    Calls Tryz.prog 44 #[.pointer (some ⟨sh, 0, none⟩)] w fun e w' => e = .returned (.bool true) ∧ w' = w := by
  go_enter Tryz.func44, Tryz.ntmps44
  go_wp2
  go_ret
  exact ⟨rfl, rfl⟩

set_option maxRecDepth 100000 in
theorem asked_ok {w : World} {sh g : Nat} (h : w.cell? ⟨sh, 0, none⟩ = some (.pointer (some ⟨g, 0, none⟩))) (q : Option Addr) (n c : Nat) (zs : List Int) (hr : Rz w q zs) (hn : n = zs.length) (hn9 : n ≤ 1000000000) :
    Calls Tryz.prog 48 #[.pointer (some ⟨sh, 0, none⟩), .slice q n c] w fun e w' => e = .returned (.int .i64 (if upTo 1152921504606846976 zs then 0 else 1)) ∧ w' = w := by
  have HM : Hid (Calls _ _ _ w _) := smade_ok h
  have HA : Hid (Calls _ _ _ w _) := areNumbers_ok q n c zs w hr hn hn9
  obtain ⟨b, hb⟩ : ∃ b, b = upTo 1152921504606846976 zs := ⟨_, rfl⟩
  rw [← hb] at HA ⊢
  clear h hr hn hn9 hb
  cases b with
  | true =>
    go_enter Tryz.func48, Tryz.ntmps48
    go_wp2_with fail
    refine HM.out.mono ?_
    rintro e9 w9 ⟨rfl, hw9⟩
    have hw8 := hw9.symm
    subst hw8
    clear hw9 HM
    go_wp2_with fail
    refine HA.out.mono ?_
    rintro e9 w9 ⟨rfl, hw9⟩
    have hw8 := hw9.symm
    subst hw8
    clear hw9 HA
    go_wp2_with fail
    go_ret
    exact ⟨rfl, rfl⟩
  | false =>
    go_enter Tryz.func48, Tryz.ntmps48
    go_wp2_with fail
    refine HM.out.mono ?_
    rintro e9 w9 ⟨rfl, hw9⟩
    have hw8 := hw9.symm
    subst hw8
    clear hw9 HM
    go_wp2_with fail
    refine HA.out.mono ?_
    rintro e9 w9 ⟨rfl, hw9⟩
    have hw8 := hw9.symm
    subst hw8
    clear hw9 HA
    go_wp2_with fail
    go_ret
    exact ⟨rfl, rfl⟩

set_option maxRecDepth 100000 in
set_option maxHeartbeats 1600000 in
theorem rfield1 (a b c d : Int) (p : Option Addr) (n k : Nat) (w : World) : (Instr.field 122 (.agg #[.int .i64 a, .int .i64 b, .int .i64 c, .int .i64 d, .slice p n k]) 1).run Tryz.prog w = .ok (.int .i64 d) w := by kernel_rfl

set_option maxRecDepth 100000 in
set_option maxHeartbeats 1600000 in
theorem rfield2 (a b c d : Int) (p : Option Addr) (n k : Nat) (w : World) : (Instr.field 122 (.agg #[.int .i64 a, .int .i64 b, .int .i64 c, .int .i64 d, .slice p n k]) 2).run Tryz.prog w = .ok (.slice p n k) w := by kernel_rfl

/-- the first epoch that is not refused -/
def fncd (h : List Rc) (b i : Nat) : Nat := match (stS h).1 ⟨3, (b : Int), (i : Int)⟩ with | some r => r.e | none => 0

end Go.Proofs.YtippipeebkkghaaGreatDoor
