/- Calls of a shelf with room for few records, as the laws make them. -/
import Derived.Test.YtippipeebkkghaaGreatDoorIq
namespace Go.Proofs.YtippipeebkkghaaGreatDoor
set_option linter.unusedVariables false
set_option linter.unusedSimpArgs false
open Go.RowKit Go.Deep Go.Maps

/-- a shelf that is the law's own, made behind w: N was the heap's size then -/
structure D8 (w u : World) (N sh mp g bp d m gf : Nat) (dur : List Nat) (h : List Rc) : Prop where
  s : Shf u (fun x => N ≤ x) sh mp g bp d m gf 298 1 1 0 1 0 dur h
  k : Kp (fun _ => False) w u
  n : N ≤ u.heap.size
  z : w.heap.size ≤ sh ∧ w.heap.size ≤ mp ∧ w.heap.size ≤ g ∧ w.heap.size ≤ gf ∧ w.heap.size ≤ m
  g : ∀ r ∈ h, GoodR r ∧ r.b.length ≤ 600

/-- bytes of one's own are kept -/
structure Oks (N : Nat) (u u' : World) : Prop where
  sz : u.heap.size ≤ u'.heap.size
  row : ∀ (t : TypeId) (k n : Nat) (v : Value) (xs : List Value), u.ownsRow N t k v n xs → u'.ownsRow N t k v n xs

theorem Oks.ow {N : Nat} {u u' : World} (o : Oks N u u') {v : Value} {xs : List Nat} (h : Ow u N v xs) : Ow u' N v xs := o.row _ _ _ _ _ h

section
variable {w u : World} {N sh mp g bp d m gf : Nat} {dur : List Nat} {h : List Rc}

theorem D8.keep0 (x : D8 w u N sh mp g bp d m gf dur h) {u' : World} (k : Kp (fun _ => False) u u') : D8 w u' N sh mp g bp d m gf dur h ∧ Oks N u u' :=
  ⟨⟨x.s.keep0 k, x.k.trans k (fun _ _ e => e), Nat.le_trans x.n k.size, x.z, x.g⟩, k.size, fun t q n v xs o => ownsRow_keep o k (fun _ _ e => e)⟩

theorem D8.put (x : D8 w u N sh mp g bp d m gf dur h) {u' : World} {h' : List Rc} (k : Kp (SW sh mp g m gf) u u') (s : Shf u' (fun x => N ≤ x) sh mp g bp d m gf 298 1 1 0 1 0 dur h') (hg : ∀ r ∈ h', GoodR r ∧ r.b.length ≤ 600) : D8 w u' N sh mp g bp d m gf dur h' ∧ Oks N u u' := by
  have z := x.z
  refine ⟨⟨s, x.k.trans k (fun b hb e => ?_), Nat.le_trans x.n k.size, x.z, hg⟩, k.size, fun t q n v xs o => ownsRow_keep o k (fun b hb e => ?_)⟩
  · rcases e with e | e | e | e | e <;> omega
  · have hb := (ownBlock_lt o hb).1
    rcases e with e | e | e | e | e
    · exact (x.s.aq m (Or.inl rfl)).1 (e ▸ hb)
    · exact (x.s.aq g (Or.inr (Or.inl rfl))).1 (e ▸ hb)
    · exact (x.s.aq gf (Or.inr (Or.inr rfl))).1 (e ▸ hb)
    · exact x.s.ap.2.1 (e ▸ hb)
    · exact x.s.ap.2.2 (e ▸ hb)

theorem D8.more (x : D8 w u N sh mp g bp d m gf dur h) {r : Rc} (hr : GoodR r ∧ r.b.length ≤ 600) : ∀ q ∈ h ++ [r], GoodR q ∧ q.b.length ≤ 600 := fun q hq => by
  rcases List.mem_append.1 hq with hq | hq
  · exact x.g q hq
  · rw [List.mem_singleton.1 hq]; exact hr

/-- two of one's own, held against each other -/
theorem eq_own {u : World} {b1 b2 : Nat} {v1 v2 : Value} {xs ys : List Nat} (h1 : Ow u b1 v1 xs) (h2 : Ow u b2 v2 ys) (hx : ∀ x ∈ xs, x < 256) (hy : ∀ x ∈ ys, x < 256) :
    Calls Tryz.prog 49 #[v1, v2] u fun e u' => e = .returned (.bool (decide (xs = ys))) ∧ u' = u := by
  obtain ⟨p, c, rfl, _, r1, _⟩ := h1.rb hx
  obtain ⟨q, d, rfl, _, r2, _⟩ := h2.rb hy
  exact equal_any c d u r1 r2

end
end Go.Proofs.YtippipeebkkghaaGreatDoor
