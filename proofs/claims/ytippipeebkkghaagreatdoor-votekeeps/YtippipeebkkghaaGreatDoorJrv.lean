/- A shelf whose log may be written anew: Noted, Sync, Life. -/
import Derived.Test.YtippipeebkkghaaGreatDoorJru
namespace Go.Proofs.YtippipeebkkghaaGreatDoor
set_option linter.unusedVariables false
set_option linter.unusedSimpArgs false
open Go.RowKit Go.Deep Go.Maps

/-- a note's bytes -/
def ntd (h : List Rc) (n : Nat) : List Nat := match (stS h).1 ⟨4, (n : Int), 0⟩ with | some r => r.b | none => []

section
variable {w : World} {Z : Nat → Prop} {sh mp g bp d m gf s b N : Nat} {h : List Rc}

set_option maxRecDepth 100000 in
theorem r8noted_ok (x : Sk w Z sh mp g h) (n : Nat) (hn : n ≤ 1152921504606846976) :
    Calls Tryz.prog 35 #[.pointer (some ⟨sh, 0, none⟩), .int .i64 (n : Int)] w fun e w' => ∃ v, e = .returned v ∧ Kp (fun _ => False) w w' ∧ Ow w' w.heap.size v (ntd h n) ∧ ∀ z ∈ ntd h n, z < 256 := by
  have HM : Hid (Calls _ _ _ w _) := smade_ok (x.l.cell (j := 0) rfl)
  have c1 : w.cell? ⟨sh, 1, none⟩ = some (.map (some mp)) := x.l.cell (j := 1) rfl
  have hwf : wf3 ⟨4, (n : Int), 0⟩ := ⟨wf_n60 (n := 4) (by omega), wf_n60 hn, wf_n60 (n := 0) (by omega)⟩
  obtain ⟨c, T, hc1, hc2, hc3⟩ := x.m
  obtain ⟨F, hF⟩ : ∃ F, F = ntd h n := ⟨_, rfl⟩
  have HLk : Hid (∃ (a1 a2 a3 a4 : Int) (qq : Option Addr) (nn cc : Nat), (Instr.lookup 93 (.map (some mp)) (.agg #[.int .i64 4, .int .i64 (n : Int), .int .i64 0]) false).run Tryz.prog w = .ok (.agg #[.int .i64 a1, .int .i64 a2, .int .i64 a3, .int .i64 a4, .slice qq nn cc]) w ∧ nn ≤ 1980 ∧ Rb w qq nn F) := by
    have h1 := look_px3f (MT := 93) Tryz.underlying93 zeroRec hc2 hwf
    show ∃ (a1 a2 a3 a4 : Int) (qq : Option Addr) (nn cc : Nat), _
    rw [hF]
    unfold ntd
    cases hM : (stS h).1 ⟨4, (n : Int), 0⟩ with
    | none => rw [(hc3 _ hwf).1 hM] at h1; exact ⟨0, 0, 0, 0, none, 0, 0, h1, by omega, rb_nil0⟩
    | some o =>
      obtain ⟨p2, cp2, b1, b2, b3⟩ := (hc3 _ hwf).2 o hM
      rw [b1] at h1
      obtain ⟨_, _, _, _, _, g6, _⟩ := x.g o ((stS_bd x.g x.n).2.2 _ _ hM)
      exact ⟨_, _, _, _, _, _, _, h1, g6, b2⟩
  rw [← hF]
  obtain ⟨a1, a2, a3, a4, qq, nn, cc, hlk, hnn, hrb⟩ := HLk.out
  have hfd := rfield2 a1 a2 a3 a4 qq nn cc w
  have HCl : Hid (Calls _ _ _ w _) := clone_any qq nn cc F w hrb (by show _ ≤ _; omega)
  have HBy : Hid (∀ z ∈ F, z < 256) := hrb.byte
  clear x hn hwf hc1 hc2 hc3 hF HLk hrb hnn
  go_enter Tryz.func35, Tryz.ntmps35
  go_wp2_with fail
  refine HM.out.mono ?_
  rintro e9 w9 ⟨rfl, hw9⟩
  have hw8 := hw9.symm
  subst hw8
  clear hw9 HM
  go_wp2_with fail
  refine HCl.out.mono ?_
  rintro e9 w9 ⟨v, rfl, k9, o9⟩
  have HE : Hid (Kp (fun _ => False) _ w9 ∧ Ow w9 _ v F) := ⟨k9, o9⟩
  clear k9 o9 HCl hlk hfd c1
  go_wp2_with fail
  go_ret
  exact ⟨v, rfl, HE.out.1, HE.out.2, HBy.out⟩

set_option maxRecDepth 100000 in
set_option maxHeartbeats 1600000 in
theorem r8sync_ok (x : Shr w Z sh mp g bp d m gf s b N h) :
    Calls Tryz.prog 21 #[.pointer (some ⟨sh, 0, none⟩)] w fun e9 w' => e9 = .returned (.int .i64 0) ∧ Kp (fun v => v = d ∨ v = m) w w' ∧ Shr w' Z sh mp g bp d m gf s b N h := by
  obtain ⟨q, a, c, e, lt, y, dur, T, hl, h1, h2⟩ := x.lg
  have c0 : w.cell? ⟨sh, 0, none⟩ = some (.pointer (some ⟨g, 0, none⟩)) := x.sk.l.cell (j := 0) rfl
  have HM : Hid (Calls _ _ _ w _) := smade_ok c0
  have HL : Hid (Calls _ _ _ w _) := lg_sync hl
  have HF : Hid (∀ w', Kp (fun v => v = d ∨ v = m) w w' → Lg w' g bp d m gf s 0 a b c e lt (h.map wrS).length (h.map wrS) (durAll dur T (2 + s)) (fun _ => none) → Shr w' Z sh mp g bp d m gf s b N h) := fun w' k l => by
    have hm := x.aq m (Or.inr (Or.inl rfl))
    have hd := x.aq d (Or.inl rfl)
    refine ⟨⟨0, _, _, _, _, _, _, _, l, h1, h2⟩, x.sk.keep k (fun e => ?_) (fun e => ?_) (fun v hb e => ?_), ?_, fun v hv => Nat.lt_of_lt_of_le (x.zb v hv) k.size, x.ap, x.aq, x.ar, x.at_, x.rm, x.hl⟩
    · rcases e with e | e
      · exact hd.2.1 e.symm
      · exact hm.2.1 e.symm
    · rcases e with e | e
      · exact hd.2.2 e.symm
      · exact hm.2.2 e.symm
    · rcases e with e | e
      · exact hd.1 (e ▸ hb)
      · exact hm.1 (e ▸ hb)
    · exact fun j hj => k.cellv (x.tu j hj) (fun e => by
        rcases e with e | e
        · exact hl.lp.td e
        · exact hl.lp.tm e)
  clear x hl
  go_enter Tryz.func21, Tryz.ntmps21
  go_wp2_with fail
  refine HM.out.mono ?_
  rintro e9 w9 ⟨rfl, hw9⟩
  have hw8 := hw9.symm
  subst hw8
  clear hw9 HM
  go_wp2_with fail
  refine HL.out.mono ?_
  rintro e9 w9 ⟨rfl, k9, l9⟩
  have HE : Hid (Kp (fun v => v = d ∨ v = m) _ w9 ∧ _) := ⟨k9, HF.out w9 k9 l9⟩
  clear k9 l9 HL HF
  go_wp2
  go_ret
  exact ⟨rfl, HE.out.1, HE.out.2⟩

set_option maxRecDepth 100000 in
theorem r8life_ok (x : Shr w Z sh mp g bp d m gf s b N h) :
    Calls Tryz.prog 32 #[.pointer (some ⟨sh, 0, none⟩)] w fun e9 w' => e9 = .returned (.int .i64 b) ∧ w' = w := by
  obtain ⟨q, a, c, e, lt, y, dur, T, hl, _⟩ := x.lg
  have c0 : w.cell? ⟨sh, 0, none⟩ = some (.pointer (some ⟨g, 0, none⟩)) := x.sk.l.cell (j := 0) rfl
  have HM : Hid (Calls _ _ _ w _) := smade_ok c0
  have HL : Hid (Calls Tryz.prog 66 #[.pointer (some ⟨g, 0, none⟩)] w fun e9 w' => e9 = .returned (.int .i64 b) ∧ w' = w) := life_ok hl.wl
  clear hl x
  go_enter Tryz.func32, Tryz.ntmps32
  go_wp2_with fail
  refine HM.out.mono ?_
  rintro e9 w9 ⟨rfl, hw9⟩
  have hw8 := hw9.symm
  subst hw8
  clear hw9 HM
  go_wp2_with fail
  refine HL.out.mono ?_
  rintro e9 w9 ⟨rfl, hw9⟩
  have hw8 := hw9.symm
  subst hw8
  clear hw9 HL
  go_wp2
  go_ret
  exact ⟨rfl, rfl⟩

/-- nothing is told where no shard is -/
theorem hldL_none {h : List Rc} (hn : ∀ y : K3, y.k = 1 → (stS h).1 y = none) (ss : List K3) : hldL h ss = [] := by
  unfold hldL
  rw [List.filterMap_eq_nil_iff]
  intro y _
  by_cases hk : y.k = 1
  · rw [if_pos hk, hn y hk]
  · rw [if_neg hk]

end
end Go.Proofs.YtippipeebkkghaaGreatDoor
