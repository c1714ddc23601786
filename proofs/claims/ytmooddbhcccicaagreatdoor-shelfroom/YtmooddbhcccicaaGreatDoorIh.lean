/- A shelf: made, asked, Fenced. -/
import Derived.Test.YtmooddbhcccicaaGreatDoorIg
namespace Go.Proofs.YtmooddbhcccicaaGreatDoor
set_option linter.unusedVariables false
set_option linter.unusedSimpArgs false
open Go.RowKit Go.Deep Go.Maps

set_option maxRecDepth 100000 in
theorem look_px3f {MT ET : TypeId} {zv : Value} {w : World} {m c : Nat} {T : K3 → Option Value} (hu : Tryz.prog.underlying MT = some (.map 83 ET)) (hz : ∀ w, (zeroValue ET).run Tryz.prog w = .ok zv w) (h : Px3 w m c T) {a : K3} (hw : wf3 a) : (Instr.lookup MT (.map (some m)) (pv3 a) false).run Tryz.prog w = .ok ((T a).getD zv) w := by
  obtain ⟨D, h1, h2⟩ := h
  obtain ⟨e1, e2⟩ := h2.look hw zv
  obtain ⟨v, ps, hrun, hv⟩ := h1.lookup p3Law hu (hz w) (zd := .held zv) (zp := []) rfl (pk3_key hw)
  rw [e2] at hv
  injection hv with hv
  injection hv with hv _
  injection hv with hv
  rw [hrun, hv]

set_option maxRecDepth 100000 in
theorem smade_ok {w : World} {sh g : Nat} (h : w.cell? ⟨sh, 0, none⟩ = some (.pointer (some ⟨g, 0, none⟩))) :
    Calls Tryz.prog 46 #[.pointer (some ⟨sh, 0, none⟩)] w fun e w' => e = .returned (.bool true) ∧ w' = w := by
  go_enter Tryz.func46, Tryz.ntmps46
  go_wp2
  go_ret
  exact ⟨rfl, rfl⟩

set_option maxRecDepth 100000 in
theorem asked_ok {w : World} {sh g : Nat} (h : w.cell? ⟨sh, 0, none⟩ = some (.pointer (some ⟨g, 0, none⟩))) (q : Option Addr) (n c : Nat) (zs : List Int) (hr : Rz w q zs) (hn : n = zs.length) (hn9 : n ≤ 1000000000) :
    Calls Tryz.prog 44 #[.pointer (some ⟨sh, 0, none⟩), .slice q n c] w fun e w' => e = .returned (.int .i64 (if upTo 1152921504606846976 zs then 0 else 1)) ∧ w' = w := by
  have HM : Hid (Calls _ _ _ w _) := smade_ok h
  have HA : Hid (Calls _ _ _ w _) := areNumbers_ok q n c zs w hr hn hn9
  obtain ⟨b, hb⟩ : ∃ b, b = upTo 1152921504606846976 zs := ⟨_, rfl⟩
  rw [← hb] at HA ⊢
  clear h hr hn hn9 hb
  cases b with
  | true =>
    go_enter Tryz.func44, Tryz.ntmps44
    go_wp2_with fail
    refine HM.out.mono ?_
    rintro e9 w9 ⟨rfl, hw9⟩
    have hw8 := hw9.symm
    subst hw8
    clear hw9 HM
    go_wp2_with fail
    refine HA.out.mono ?_
    rintro e9 w9 ⟨rfl, hw9⟩
    have hw8 := hw9.symm
    subst hw8
    clear hw9 HA
    go_wp2_with fail
    go_ret
    exact ⟨rfl, rfl⟩
  | false =>
    go_enter Tryz.func44, Tryz.ntmps44
    go_wp2_with fail
    refine HM.out.mono ?_
    rintro e9 w9 ⟨rfl, hw9⟩
    have hw8 := hw9.symm
    subst hw8
    clear hw9 HM
    go_wp2_with fail
    refine HA.out.mono ?_
    rintro e9 w9 ⟨rfl, hw9⟩
    have hw8 := hw9.symm
    subst hw8
    clear hw9 HA
    go_wp2_with fail
    go_ret
    exact ⟨rfl, rfl⟩

set_option maxRecDepth 100000 in
set_option maxHeartbeats 1600000 in
theorem rfield1 (a b c d : Int) (p : Option Addr) (n k : Nat) (w : World) : (Instr.field 85 (.agg #[.int .i64 a, .int .i64 b, .int .i64 c, .int .i64 d, .slice p n k]) 1).run Tryz.prog w = .ok (.int .i64 d) w := by kernel_rfl
set_option maxRecDepth 100000 in
set_option maxHeartbeats 1600000 in
theorem rfield2 (a b c d : Int) (p : Option Addr) (n k : Nat) (w : World) : (Instr.field 85 (.agg #[.int .i64 a, .int .i64 b, .int .i64 c, .int .i64 d, .slice p n k]) 2).run Tryz.prog w = .ok (.slice p n k) w := by kernel_rfl
/-- the first epoch that is not refused -/
def fncd (h : List Rc) (b i : Nat) : Nat := match (stS h).1 ⟨3, (b : Int), (i : Int)⟩ with | some r => r.e | none => 0
set_option maxRecDepth 100000 in
theorem fenced_ok {w : World} {Z : Nat → Prop} {sh mp g : Nat} {h : List Rc} (x : Sk w Z sh mp g h) (b i : Nat) (hb : b ≤ 1152921504606846976) (hi : i ≤ 1152921504606846976) :
    Calls Tryz.prog 19 #[.pointer (some ⟨sh, 0, none⟩), .int .i64 (b : Int), .int .i64 (i : Int)] w fun e w' => e = .returned (.int .i64 (fncd h b i : Int)) ∧ w' = w := by
  have HM : Hid (Calls _ _ _ w _) := smade_ok (x.l.cell (j := 0) rfl)
  have c1 : w.cell? ⟨sh, 1, none⟩ = some (.map (some mp)) := x.l.cell (j := 1) rfl
  have hwf : wf3 ⟨3, (b : Int), (i : Int)⟩ := ⟨wf_n60 (n := 3) (by omega), wf_n60 hb, wf_n60 hi⟩
  obtain ⟨c, T, hc1, hc2, hc3⟩ := x.m
  obtain ⟨F, hF⟩ : ∃ F, F = fncd h b i := ⟨_, rfl⟩
  have HLk : Hid (∃ (a1 a2 a3 : Int) (qq : Option Addr) (nn cc : Nat), (Instr.lookup 88 (.map (some mp)) (.agg #[.int .i64 3, .int .i64 (b : Int), .int .i64 (i : Int)]) false).run Tryz.prog w = .ok (.agg #[.int .i64 a1, .int .i64 a2, .int .i64 a3, .int .i64 (F : Int), .slice qq nn cc]) w) := by
    have h1 := look_px3f (MT := 88) Tryz.underlying88 zeroRec hc2 hwf
    show ∃ (a1 a2 a3 : Int) (qq : Option Addr) (nn cc : Nat), _
    rw [hF]
    unfold fncd
    cases hM : (stS h).1 ⟨3, (b : Int), (i : Int)⟩ with
    | none => rw [(hc3 _ hwf).1 hM] at h1; exact ⟨0, 0, 0, none, 0, 0, h1⟩
    | some o =>
      obtain ⟨p2, cp2, b1, b2, b3⟩ := (hc3 _ hwf).2 o hM
      rw [b1] at h1
      exact ⟨_, _, _, _, _, _, h1⟩
  rw [← hF]
  obtain ⟨a1, a2, a3, qq, nn, cc, hlk⟩ := HLk.out
  have hfd := rfield1 a1 a2 a3 F qq nn cc w
  clear x hb hi hwf hc1 hc2 hc3 hF HLk
  go_enter Tryz.func19, Tryz.ntmps19
  go_wp2_with fail
  refine HM.out.mono ?_
  rintro e9 w9 ⟨rfl, hw9⟩
  have hw8 := hw9.symm
  subst hw8
  clear hw9 HM
  go_wp2_with fail
  go_ret
  exact ⟨rfl, rfl⟩
end Go.Proofs.YtmooddbhcccicaaGreatDoor
