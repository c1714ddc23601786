/- A shelf that is durable: what a crash leaves of it is all. -/
import Derived.Test.YtippipeebkkghaaGreatDoorVoa
import Derived.Test.YtippipeebkkghaaGreatDoorJrd
import Derived.Test.YtippipeebkkghaaGreatDoorJre
import Derived.Test.YtippipeebkkghaaGreatDoorIo
namespace Go.Proofs.YtippipeebkkghaaGreatDoor
set_option linter.unusedVariables false
set_option linter.unusedSimpArgs false
open Go.RowKit Go.Deep Go.Maps

/-- all records are durable -/
def Dur (w : World) (g bp d m gf s b N : Nat) (h : List Rc) : Prop := ∃ q a c e lt dur T, Lg w g bp d m gf s q a b c e lt h.length (h.map wrS) dur T ∧ a ≤ N + 1 ∧ lt ≤ 2000 * N
section
variable {w : World} {Z : Nat → Prop} {sh mp g bp d m gf s b N : Nat} {h : List Rc}
theorem Dur.keep {S : Nat → Prop} (x : Dur w g bp d m gf s b N h) {w' : World} (k : Kp S w w') (hS : ∀ v, (v = bp ∨ v = d ∨ v = m ∨ v = g ∨ v = gf) → ¬ S v) : Dur w' g bp d m gf s b N h := by
  obtain ⟨q, a, c, e, lt, dur, T, hl, h1, h2⟩ := x
  exact ⟨q, a, c, e, lt, dur, T, hl.keep k (hS _ (Or.inr (Or.inr (Or.inr (Or.inl rfl))))) (hS _ (Or.inl rfl)) (hS _ (Or.inr (Or.inl rfl))) (hS _ (Or.inr (Or.inr (Or.inl rfl)))) (hS _ (Or.inr (Or.inr (Or.inr (Or.inr rfl))))), h1, h2⟩

set_option maxRecDepth 100000 in
set_option maxHeartbeats 1600000 in
theorem r9sync_ok (x : Shr w Z sh mp g bp d m gf s b N h) :
    Calls Tryz.prog 21 #[.pointer (some ⟨sh, 0, none⟩)] w fun e9 w' => e9 = .returned (.int .i64 0) ∧ Kp (fun v => v = d ∨ v = m) w w' ∧ Shr w' Z sh mp g bp d m gf s b N h ∧ Dur w' g bp d m gf s b N h := by
  obtain ⟨q, a, c, e, lt, y, dur, T, hl, h1, h2⟩ := x.lg
  have c0 : w.cell? ⟨sh, 0, none⟩ = some (.pointer (some ⟨g, 0, none⟩)) := x.sk.l.cell (j := 0) rfl
  have HM : Hid (Calls _ _ _ w _) := smade_ok c0
  have HL : Hid (Calls _ _ _ w _) := lg_sync hl
  have HF : Hid (∀ w', Kp (fun v => v = d ∨ v = m) w w' → Lg w' g bp d m gf s 0 a b c e lt (h.map wrS).length (h.map wrS) (durAll dur T (2 + s)) (fun _ => none) → Shr w' Z sh mp g bp d m gf s b N h ∧ Dur w' g bp d m gf s b N h) := fun w' k l => by
    have hm := x.aq m (Or.inr (Or.inl rfl))
    have hd := x.aq d (Or.inl rfl)
    have l' := l
    rw [List.length_map] at l'
    refine ⟨⟨⟨0, _, _, _, _, _, _, _, l, h1, h2⟩, x.sk.keep k (fun e => ?_) (fun e => ?_) (fun v hb e => ?_), ?_, fun v hv => Nat.lt_of_lt_of_le (x.zb v hv) k.size, x.ap, x.aq, x.ar, x.at_, x.rm, x.hl⟩, ⟨0, _, _, _, _, _, _, l', h1, h2⟩⟩
    · rcases e with e | e
      · exact hd.2.1 e.symm
      · exact hm.2.1 e.symm
    · rcases e with e | e
      · exact hd.2.2 e.symm
      · exact hm.2.2 e.symm
    · rcases e with e | e
      · exact hd.1 (e ▸ hb)
      · exact hm.1 (e ▸ hb)
    · exact fun j hj => k.cellv (x.tu j hj) (fun e => by
        rcases e with e | e
        · exact hl.lp.td e
        · exact hl.lp.tm e)
  clear x hl
  go_enter Tryz.func21, Tryz.ntmps21
  go_wp2_with fail
  refine HM.out.mono ?_
  rintro e9 w9 ⟨rfl, hw9⟩
  have hw8 := hw9.symm
  subst hw8
  clear hw9 HM
  go_wp2_with fail
  refine HL.out.mono ?_
  rintro e9 w9 ⟨rfl, k9, l9⟩
  have HE : Hid (Kp (fun v => v = d ∨ v = m) _ w9 ∧ _) := ⟨k9, HF.out w9 k9 l9⟩
  clear k9 l9 HL HF
  go_wp2
  go_ret
  exact ⟨rfl, HE.out.1, HE.out.2⟩

/-- a shelf of no records: no bytes lie anywhere -/
theorem Shr.none (x : Shr w Z sh mp g bp d m gf s b N []) : Shr w (fun _ => False) sh mp g bp d m gf s b N [] := by
  have hm : Sk w (fun _ => False) sh mp g [] := by
    obtain ⟨c, T', h1, h2, h3⟩ := x.sk.m
    exact ⟨x.sk.l, ⟨c, T', h1, h2, fun y hy => ⟨(h3 y hy).1, fun o ho => by rw [stS_nil] at ho; cases ho⟩⟩, x.sk.g, x.sk.n⟩
  exact ⟨x.lg, hm, x.tu, fun _ e => e.elim, ⟨x.ap.1, id, id⟩, fun v hv => ⟨id, (x.aq v hv).2⟩, x.ar, x.at_, x.rm, x.hl⟩
/-- a shelf that was opened, of a history that is small -/
theorem Shf.shr9 {N0 a c e y : Nat} {dur : List Nat} (x : Shf w (fun z => N0 ≤ z) sh mp g bp d m gf s a b c e y dur h) (hy : y = h.length) (hsm : Sm h) (hd : d ≠ sh ∧ d ≠ mp) (hdz : d < N0) (hN0 : N0 ≤ w.heap.size) (ha : a ≤ N + 1) (he : e + h.length ≤ 2000 * N + 1) (hrm : (totW (h.map wrS) : Int) + (stS h).2 ≤ (s : Int)) (hl : h.length ≤ N) :
    Shr w (fun z => N0 ≤ z ∧ z < w.heap.size) sh mp g bp d m gf s b N h ∧ Dur w g bp d m gf s b N h := by
  obtain ⟨q, lt, T, l⟩ := x.lg
  have hlt := l.hl
  rw [List.length_map] at hlt
  refine ⟨⟨⟨q, a, c, e, lt, y, dur, T, l, ha, by omega⟩, x.sk.zb hsm, x.tu, fun z hz => hz.2, ⟨x.ap.1, fun hz => x.ap.2.1 hz.1, fun hz => x.ap.2.2 hz.1⟩, fun z hz => ?_, ⟨x.ar.1, x.ar.2.1⟩, x.at_, hrm, hl⟩, ⟨q, a, c, e, lt, dur, T, by rw [← hy]; exact l, ha, by omega⟩⟩
  rcases hz with rfl | hz
  · exact ⟨fun hz => by have := hz.1; omega, hd⟩
  · exact ⟨fun hz2 => (x.aq z hz).1 hz2.1, (x.aq z hz).2⟩
end
end Go.Proofs.YtippipeebkkghaaGreatDoor
