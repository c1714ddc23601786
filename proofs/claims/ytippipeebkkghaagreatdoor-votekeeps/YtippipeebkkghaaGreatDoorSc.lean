/- What a crash leaves of each sector; texts of images. -/
import Derived.Test.YtippipeebkkghaaGreatDoorSc0
import Derived.Test.YtippipeebkkghaaGreatDoorPl6
import Derived.Test.YtippipeebkkghaaGreatDoorPc
import Derived.Test.YtippipeebkkghaaGreatDoorPk
import Derived.Test.YtippipeebkkghaaGreatDoorSt
namespace Go.Proofs.YtippipeebkkghaaGreatDoor
open Go.RowKit Go.Deep Go.Maps

theorem Rt.congr {w : World} {t n : Nat} {N N' : Nat → List Nat} (h : Rt w t n N) (e : ∀ r, r < n → N r = N' r) : Rt w t n N' := by
  obtain ⟨cp, V, h1, h2, h3⟩ := h
  refine ⟨cp, V, h1, h2, fun r hr => ?_⟩
  rw [← e r hr]
  exact h3 r hr
theorem rt_image {w : World} {t n : Nat} {V : Nat → Value} {dur : List Nat} (hb : ∀ x ∈ dur, x < 256) (hr : w.rowIs t 75 n V) (ho : ∀ r, r < n → Ow w (t + 1) (V r) ((dur.drop (r * 64)).take 64)) : Rt w t n (secOf dur) := by
  refine ⟨n, V, Nat.le_refl _, hr, fun r hr => ?_⟩
  obtain ⟨p, c, ev, _, rb, _⟩ := (ho r hr).rb (fun x hx => hb x (List.mem_of_mem_drop (List.mem_of_mem_take hx)))
  exact ⟨p, _, c, ev, rb⟩
theorem Nows.rt {w : World} {b d m t n : Nat} {V : Nat → Value} {N : Nat → List Nat} (h : Nows w b d m t n V N) : Rt w t n N :=
  ⟨n, V, Nat.le_refl _, h.top, fun r hr => by obtain ⟨bb, o, c, h1, h2, _⟩ := h.row r hr; exact ⟨_, _, c, h1, h2⟩⟩
theorem Wv.rt {w : World} {b d m t t2 : Nat} {N : Nat → List Nat} (h : Wv w b d m t t2 N) : Rt w t2 6 N := by
  obtain ⟨cp, V, h1, h2, h3⟩ := h.top
  exact ⟨cp, V, h1, h2, fun r hr => by obtain ⟨bb, o, c, h1, _, h2, _⟩ := h3 r hr; exact ⟨_, _, c, h1, h2⟩⟩
theorem wf_nat (i : Nat) (h : i < 1000000) : (Lit.int .i64 (i : Int)).wf = true := by have := WalkArith.wf_i64 (n := (i : Int)) (by omega); exact this
theorem Is.rz {w : World} {base : Nat} {v : Value} {zs : List Int} (h : Is w base v zs) : ∃ p c, v = .slice p zs.length c ∧ Rz w p zs ∧ ∀ a, p = some a → base ≤ a.block ∧ v.ownBlock = some a.block := by
  rcases h.2 with ⟨rfl, h0⟩ | ⟨g, cap, cur, rfl, hb, hh, hn, _, hcs, htk⟩
  · have : zs = [] := List.eq_nil_of_length_eq_zero h0
    subst this
    exact ⟨none, 0, rfl, fun j hj => absurd hj (Nat.not_lt_zero _), fun a e => by cases e⟩
  · refine ⟨_, cap, rfl, fun j hj => ⟨g, 0, rfl, ?_⟩, fun a e => by cases e; exact ⟨hb, rfl⟩⟩
    have h1 : (cur.toList.take (zs.length * 1))[j]? = some (.int .i64 (zs.getD j 0)) := by
      rw [htk, List.getElem?_map, List.getD_eq_getElem?_getD, List.getElem?_eq_getElem hj]; rfl
    rw [List.getElem?_take_of_lt (by omega), Array.getElem?_toList] at h1
    rw [Nat.zero_add]
    simp [World.cell?, hh, h1]
theorem Rz.keep {S : Nat → Prop} {w w' : World} {p : Option Addr} {zs : List Int} (h : Rz w p zs) (k : Kp S w w') (hS : ∀ a, p = some a → ¬ S a.block) : Rz w' p zs := fun j hj => by
  obtain ⟨b, o, rfl, hc⟩ := h j hj
  exact ⟨b, o, rfl, k.cellv hc (hS ⟨b, o, none⟩ rfl)⟩
end Go.Proofs.YtippipeebkkghaaGreatDoor
