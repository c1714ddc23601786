/- The verifier's written, with what the sectors were. -/
import Derived.Test.YtippipeebkkghaaGreatDoorTg
namespace Go.Proofs.YtippipeebkkghaaGreatDoor
open Go.RowKit Go.Deep Go.Maps

/-- the durable bytes of a sector -/
def secOf (dur : List Nat) (i : Nat) : List Nat := (dur.drop (i * 64)).take 64
/-- the block of a slice's cells -/
def blkOf : Value → Option Nat
  | .slice (some a) _ _ => some a.block
  | _ => none
def capOf : Value → Nat
  | .slice _ _ c => c
  | _ => 0
/-- a slice that lies elsewhere than at t2, and has its 64 bytes -/
def Vok (t2 : Nat) (v : Value) : Prop := blkOf v ≠ some t2 ∧ 64 ≤ capOf v
/-- what the sectors were: texts of 64 bytes each at row t2, which is no other's -/
structure Wv (w : World) (b d m t t2 : Nat) (N : Nat → List Nat) : Prop where
  top : ∃ cp V, 6 ≤ cp ∧ w.rowIs t2 75 cp V ∧ ∀ r, r < 6 → ∃ bb o c, V r = .slice (some ⟨bb, o, none⟩) 64 c ∧ 64 ≤ c ∧ Rb w (some ⟨bb, o, none⟩) 64 (N r) ∧ bb ≠ t2 ∧ bb ≠ t ∧ bb ≠ d ∧ bb ≠ m ∧ bb ≠ b
  ne : t2 ≠ b ∧ t2 ≠ d ∧ t2 ≠ m ∧ t2 ≠ t
theorem Wv.keep {S : Nat → Prop} {w w' : World} {b d m t t2 : Nat} {N : Nat → List Nat} (h : Wv w b d m t t2 N) (k : Kp S w w') (hS : ∀ x, S x → x = b ∨ x = d ∨ x = m ∨ x = t) : Wv w' b d m t t2 N := by
  obtain ⟨cp, V, hc, hr, hv⟩ := h.top
  obtain ⟨n1, n2, n3, n4⟩ := h.ne
  refine ⟨⟨cp, V, hc, k.row hr (fun e => by rcases hS _ e with h1 | h1 | h1 | h1 <;> contradiction), fun r hr => ?_⟩, h.ne⟩
  obtain ⟨bb, o, c, h1, hcc, h2, h3, h4, h5, h6, h7⟩ := hv r hr
  exact ⟨bb, o, c, h1, hcc, h2.keep k (fun a ha _ e => by cases ha; rcases hS _ e with h1 | h1 | h1 | h1 <;> contradiction), h3, h4, h5, h6, h7⟩
theorem Wv.of_gt {w : World} {base b d m t : Nat} {v : Value} {xs : List Value} {N : Nat → List Nat} (h : Gt w base v 6 xs N) (hN : ∀ r, r < 6 → (N r).length = 64) (hb : b < base) (hd : d < base) (hm : m < base) (ht : t < base) : ∃ t2 c2, v = .slice (some ⟨t2, 0, none⟩) 6 c2 ∧ base ≤ t2 ∧ t2 < w.heap.size ∧ 6 ≤ c2 ∧ Wv w b d m t t2 N := by
  rcases h.own.2 with ⟨_, e2⟩ | ⟨g, cap, cur, e, hg, hh, h1, h2, h3, h4⟩
  · omega
  · subst e
    refine ⟨g, cap, rfl, hg, (Array.getElem?_eq_some_iff.1 hh).1, h1, ⟨cap, fun j => (cur[j]?).getD (.slice none 0 0), h1, ⟨cur, hh, by omega, fun j hj => ?_⟩, fun r hr => ?_⟩, by omega, by omega, by omega, by omega⟩
    · dsimp only; rw [Array.getElem?_eq_getElem (by omega)]; rfl
    · obtain ⟨p, n, c, ex, rb, hc, hp⟩ := h.txt r hr
      have hn : n = 64 := by rw [← rb.len]; exact hN r hr
      subst hn
      obtain ⟨bb, o, rfl, _⟩ := rb.pt (by omega)
      have h5 : (cur.toList.take (6 * 1))[r]? = xs[r]? := by rw [h4]
      rw [List.getElem?_take_of_lt (by omega), Array.getElem?_toList, ex] at h5
      have := hp _ rfl
      have hne : g ≠ bb := fun e => this.2.2 (by rw [e]; rfl)
      have hbb := this.1
      simp only at hbb
      exact ⟨bb, o, c, by dsimp only; rw [h5]; rfl, hc, rb, fun e => hne e.symm, by omega, by omega, by omega, by omega⟩
/-- what written leaves -/
structure Wst2 (w w' : World) (b d m q t t2 : Nat) : Prop where
  kp : Kp (fun _ => False) w w'
  many : (q : Int) ≤ 9223372036854775807
  lo : w.heap.size ≤ b ∧ w.heap.size ≤ d ∧ w.heap.size ≤ m ∧ w.heap.size ≤ t ∧ w.heap.size ≤ t2
  ex : ∃ (V : Nat → Value) (N : Nat → List Nat) (dur : List Nat) (T : Nat → Option (List Nat)), Pt w' b d m 6 q dur T ∧ Nows w' b d m t 6 V N ∧ (∀ i, i < 6 → N i = nowOf dur T i) ∧ (∀ i, i < 6 → Vok t2 (V i)) ∧ Wv w' b d m t t2 (secOf dur)

end Go.Proofs.YtippipeebkkghaaGreatDoor
