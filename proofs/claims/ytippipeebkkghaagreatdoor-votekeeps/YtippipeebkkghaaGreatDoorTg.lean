/- The verifier's Texts: a copy of texts, which nobody else has. -/
import Derived.Test.YtippipeebkkghaaGreatDoorPl5
namespace Go.Proofs.YtippipeebkkghaaGreatDoor
open Go.RowKit Go.Deep

/-- v is a list of texts of one's own -/
structure Gt (w : World) (base : Nat) (v : Value) (k : Nat) (xs : List Value) (N : Nat → List Nat) : Prop where
  own : w.ownsRow base 75 1 v k xs
  txt : ∀ r, r < k → ∃ p n c, xs[r]? = some (.slice p n c) ∧ Rb w p n (N r) ∧ n ≤ c ∧ ∀ a, p = some a → base ≤ a.block ∧ a.block < w.heap.size ∧ v.ownBlock ≠ some a.block
theorem Gt.keep {S : Nat → Prop} {w w' : World} {base : Nat} {v : Value} {k : Nat} {xs : List Value} {N : Nat → List Nat} (h : Gt w base v k xs N) (kp : Kp S w w') (hS : ∀ g, base ≤ g → ¬ S g) : Gt w' base v k xs N := by
  refine ⟨ownsRow_keep h.own kp (fun g hg => hS g (ownBlock_lt h.own hg).1), fun r hr => ?_⟩
  obtain ⟨p, n, c, e, rb, hc, hp⟩ := h.txt r hr
  exact ⟨p, n, c, e, rb.keep kp (fun a ha _ => hS _ (hp a ha).1), hc, fun a ha => ⟨(hp a ha).1, Nat.lt_of_lt_of_le (hp a ha).2.1 kp.size, (hp a ha).2.2⟩⟩
theorem Gt.step {w wq wb w3 : World} {base : Nat} {v v' vq : Value} {k : Nat} {xs : List Value} {N : Nat → List Nat} (h : Gt w base v k xs N) (hl : xs.length = k) (hb : base ≤ w.heap.size) (kq : Kp (fun _ => False) w wq) (oq : Ow wq w.heap.size vq (N k)) (hby : ∀ x ∈ N k, x < 256)
    (kb : Kp (fun _ => False) wq wb) (hown : w3.ownsRow base 75 1 v' (k + 1) (xs ++ [vq])) (hg : wb.grownBy w3 v.ownBlock) (hblk : v'.ownBlock = v.ownBlock ∨ v'.ownBlock = some wb.heap.size) : Gt w3 base v' (k + 1) (xs ++ [vq]) N := by
  have k3 := grownBy_kp hg
  have kw := kq.trans kb (fun _ _ e => e)
  refine ⟨hown, fun r hr => ?_⟩
  by_cases e : r = k
  · subst e
    obtain ⟨p, c, ev, hc, rb, hp⟩ := oq.rb hby
    refine ⟨p, (N r).length, c, ?_, ?_, hc, fun a ha => ?_⟩
    · rw [List.getElem?_append_right (by omega), hl, Nat.sub_self, ev]; rfl
    · refine (rb.keep0 kb).keep k3 (fun a ha _ e => ?_)
      have h1 := ownBlock_lt h.own e
      have h2 := (hp a ha).1
      omega
    · have h1 := (hp a ha).1
      have h2 := (ownBlock_lt oq (hp a ha).2).2
      have h3 := kb.size
      have h4 := k3.size
      refine ⟨by omega, by omega, fun e => ?_⟩
      rcases hblk with hblk | hblk
      · rw [hblk] at e
        have := (ownBlock_lt h.own e).2
        omega
      · rw [hblk] at e
        have := Option.some.inj e
        omega
  · obtain ⟨p, n, c, ev, rb, hc, hp⟩ := h.txt r (by omega)
    refine ⟨p, n, c, ?_, ?_, hc, fun a ha => ?_⟩
    · rw [List.getElem?_append_left (by omega)]; exact ev
    · exact (rb.keep0 kw).keep k3 (fun a ha _ e => (hp a ha).2.2 e)
    · have h1 := hp a ha
      have h3 := kw.size
      have h4 := k3.size
      refine ⟨h1.1, by omega, fun e => ?_⟩
      rcases hblk with hblk | hblk
      · rw [hblk] at e
        exact h1.2.2 e
      · rw [hblk] at e
        have := Option.some.inj e
        omega

end Go.Proofs.YtippipeebkkghaaGreatDoor
