/- A shelf's Store, Drop, Sync, whatever is asked. -/
import Derived.Test.YtippipeebkkghaaGreatDoorJrd
import Derived.Test.YtippipeebkkghaaGreatDoorIr
import Derived.Test.YtippipeebkkghaaGreatDoorIx
namespace Go.Proofs.YtippipeebkkghaaGreatDoor
set_option linter.unusedVariables false
set_option linter.unusedSimpArgs false
open Go.RowKit Go.Deep Go.Maps

theorem secS_3 {b i : Nat} {xs : List Nat} (hb : b ≤ 1152921504606846976) (hi : i ≤ 1152921504606846976) (hx : xs.length ≤ 100) : secS ⟨1, b, i, 0, xs⟩ ≤ 3 := by
  have h1 := numB_len hb
  have h2 := numB_len hi
  have h3 : (wrS ⟨1, b, i, 0, xs⟩).length ≤ 119 := by
    unfold wrS
    simp only [if_neg (show ¬ (1 : Nat) = 4 by decide), if_neg (show ¬ (1 : Nat) = 3 by decide), List.length_append, List.length_cons, List.length_nil]
    omega
  unfold secS needW
  omega

theorem secS_d {b i : Nat} (hb : b ≤ 1152921504606846976) (hi : i ≤ 1152921504606846976) : secS ⟨2, b, i, 0, []⟩ ≤ 3 := by
  have h1 := numB_len hb
  have h2 := numB_len hi
  have h3 : (wrS ⟨2, b, i, 0, []⟩).length ≤ 19 := by
    unfold wrS
    simp only [if_neg (show ¬ (2 : Nat) = 4 by decide), if_neg (show ¬ (2 : Nat) = 3 by decide), List.length_append, List.length_cons, List.length_nil]
    omega
  unfold secS needW
  omega

/-- records that take three sectors at most -/
def Sm (h : List Rc) : Prop := ∀ r ∈ h, Cn r ∧ secS r ≤ 3 ∧ (r.k = 2 ∨ 1 ≤ r.b.length)

theorem Sm.tot : ∀ {h : List Rc}, Sm h → totW (h.map wrS) ≤ 3 * h.length
  | [], _ => Nat.le_refl _
  | r :: l, h => by
    have h1 := (h r List.mem_cons_self).2.1
    have h2 := Sm.tot (h := l) (fun x hx => h x (List.mem_cons_of_mem _ hx))
    show secS r + totW (l.map wrS) ≤ 3 * (l.length + 1)
    omega

theorem Sm.fits {h : List Rc} {r : Rc} (hs : Sm h) (hr : secS r ≤ 3) (hn : h.length ≤ 45) : 2 * (secS r : Int) + (stS h).2 + (totW (h.map wrS) : Int) ≤ ((298 : Nat) : Int) ∧ totW (h.map wrS) + secS r ≤ 298 := by
  have h2 := hs.tot
  have h3 := stS_le h
  omega

theorem Sm.snoc {h : List Rc} {r : Rc} (hs : Sm h) (hc : Cn r) (hr : secS r ≤ 3) (hk : r.k = 2 ∨ 1 ≤ r.b.length) : Sm (h ++ [r]) := fun x hx => by
  rcases List.mem_append.1 hx with hx | hx
  · exact hs x hx
  · rw [List.mem_singleton.1 hx]; exact ⟨hc, hr, hk⟩

theorem cn1 {b i : Nat} {xs : List Nat} (hb : b ≤ 1152921504606846976) (hi : i ≤ 1152921504606846976) (hx : ∀ x ∈ xs, x < 256) (hl : xs.length ≤ 100) (h1 : 1 ≤ xs.length) : Cn ⟨1, b, i, 0, xs⟩ :=
  ⟨(good1 hb hi hx (by omega)).1, fun h => absurd (show 1 = 4 from h) (by decide), fun _ => rfl, fun _ => h1⟩

theorem cn2 {b i : Nat} (hb : b ≤ 1152921504606846976) (hi : i ≤ 1152921504606846976) : Cn ⟨2, b, i, 0, []⟩ :=
  ⟨(good2 hb hi).1, fun h => absurd (show 2 = 4 from h) (by decide), fun _ => rfl, fun h => absurd (show 2 = 1 from h) (by decide)⟩

theorem upTo_nat {z : Int} (h : upTo 1152921504606846976 [z] = true) : ∃ n : Nat, z = (n : Int) ∧ n ≤ 1152921504606846976 := by
  unfold upTo at h
  simp at h
  exact ⟨z.toNat, by omega, by omega⟩

section
variable {w : World} {Z : Nat → Prop} {sh mp g bp d m gf a b c e y : Nat} {dur : List Nat} {h : List Rc}

/-- what Store and Drop come to, whatever is asked -/
def Put8 (w w' : World) (Z : Nat → Prop) (sh mp g bp d m gf a b c e y : Nat) (dur : List Nat) (h : List Rc) : Prop := Kp (SW sh mp g m gf) w w' ∧ ∃ h', (h' = h ∨ ∃ r, Cn r ∧ secS r ≤ 3 ∧ (r.k = 2 ∨ 1 ≤ r.b.length) ∧ h' = h ++ [r]) ∧ Shf w' Z sh mp g bp d m gf 298 a b c e y dur h'

set_option maxRecDepth 100000 in
set_option maxHeartbeats 1600000 in
theorem ssync_ok {s : Nat} (x : Shf w Z sh mp g bp d m gf s a b c e y dur h) (hdz : ¬ Z d ∧ d ≠ g ∧ d ≠ gf) :
    Calls Tryz.prog 21 #[.pointer (some ⟨sh, 0, none⟩)] w fun e9 w' => e9 = .returned (.int .i64 0) ∧ Kp (fun b => b = d ∨ b = m) w w' ∧ ∃ dur', Shf w' Z sh mp g bp d m gf s a b c e h.length dur' h := by
  obtain ⟨q, lt, T, hl⟩ := x.lg
  have c0 : w.cell? ⟨sh, 0, none⟩ = some (.pointer (some ⟨g, 0, none⟩)) := x.sk.l.cell (j := 0) rfl
  have HM : Hid (Calls _ _ _ w _) := smade_ok c0
  have HL : Hid (Calls _ _ _ w _) := lg_sync hl
  have HF : Hid (∀ w', Kp (fun b => b = d ∨ b = m) w w' → Lg w' g bp d m gf s 0 a b c e lt (h.map wrS).length (h.map wrS) (durAll dur T (2 + s)) (fun _ => none) → ∃ dur', Shf w' Z sh mp g bp d m gf s a b c e h.length dur' h) := fun w' k l => by
    rw [List.length_map] at l
    have hm := x.aq m (Or.inl rfl)
    refine ⟨_, ⟨0, _, _, l⟩, x.sk.keep k (fun e => ?_) (fun e => ?_) (fun b hb e => ?_), ?_, x.ap, x.aq, x.ar, x.at_⟩
    · rcases e with e | e
      · exact x.ar.2.2.1 e.symm
      · exact hm.2.1 e.symm
    · rcases e with e | e
      · exact x.ar.2.2.2 e.symm
      · exact hm.2.2 e.symm
    · rcases e with e | e
      · exact hdz.1 (e ▸ hb)
      · exact hm.1 (e ▸ hb)
    · exact fun j hj => k.cellv (x.tu j hj) (fun e => by
        rcases e with e | e
        · exact hl.lp.td e
        · exact hl.lp.tm e)
  clear x hl hdz
  go_enter Tryz.func21, Tryz.ntmps21
  go_wp2_with fail
  refine HM.out.mono ?_
  rintro e9 w9 ⟨rfl, hw9⟩
  have hw8 := hw9.symm
  subst hw8
  clear hw9 HM
  go_wp2_with fail
  refine HL.out.mono ?_
  rintro e9 w9 ⟨rfl, k9, l9⟩
  have HE : Hid (Kp (fun b => b = d ∨ b = m) _ w9 ∧ _) := ⟨k9, HF.out w9 k9 l9⟩
  clear k9 l9 HL HF
  go_wp2
  go_ret
  exact ⟨rfl, HE.out.1, HE.out.2⟩

/-- the records' bytes lie in blocks that are there -/
theorem Sk.zb {w : World} {Z : Nat → Prop} {sh mp g : Nat} {h : List Rc} (x : Sk w Z sh mp g h) (hs : Sm h) : Sk w (fun b => Z b ∧ b < w.heap.size) sh mp g h := by
  obtain ⟨c, T, h1, h2, h3⟩ := x.m
  refine ⟨x.l, ⟨c, T, h1, h2, fun y hw => ⟨(h3 y hw).1, fun o ho => ?_⟩⟩, x.g, x.n⟩
  obtain ⟨p, cp, e, hr, hz⟩ := (h3 y hw).2 o ho
  refine ⟨p, cp, e, hr, fun a ha => ⟨hz a ha, ?_⟩⟩
  have hm := (stS_bd x.g x.n).2.2 y o ho
  have hst := (stS_sub h y o ho).2
  have h1 : 1 ≤ o.b.length := by
    rcases (hs o hm).2.2 with e2 | e2
    · rw [show staysS o = false by unfold staysS; simp [e2]] at hst
      cases hst
    · exact e2
  obtain ⟨b, o', e3, hb⟩ := hr.pt h1
  rw [ha] at e3
  cases e3
  exact World.block_lt_of_cell? _ _ (hb 0 h1)

theorem Sk.zm {w : World} {Z Z' : Nat → Prop} {sh mp g : Nat} {h : List Rc} (x : Sk w Z sh mp g h) (hz : ∀ b, Z b → Z' b) : Sk w Z' sh mp g h := by
  obtain ⟨c, T, h1, h2, h3⟩ := x.m
  exact ⟨x.l, ⟨c, T, h1, h2, fun y hw => ⟨(h3 y hw).1, fun o ho => by
    obtain ⟨p, cp, e, hr, hq⟩ := (h3 y hw).2 o ho
    exact ⟨p, cp, e, hr, fun a ha => hz _ (hq a ha)⟩⟩⟩, x.g, x.n⟩

end
end Go.Proofs.YtippipeebkkghaaGreatDoor
