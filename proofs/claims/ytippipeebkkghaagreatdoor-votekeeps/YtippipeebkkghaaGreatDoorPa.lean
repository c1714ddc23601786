/- A plate and the reference's, beside each other: what both have, and what stays. -/
import Derived.Test.YtippipeebkkghaaGreatDoorRc
import Derived.Test.YtippipeebkkghaaGreatDoorPd
import Derived.Test.YtippipeebkkghaaGreatDoorPq
import Derived.Test.YtippipeebkkghaaGreatDoorFe2
namespace Go.Proofs.YtippipeebkkghaaGreatDoor
open Go.RowKit Go.Deep Go.Maps

/-- a plate of n sectors that has failed -/
def Dn (w : World) (b n : Nat) : Prop := 0 < n ∧ w.cell? ⟨b, 0, none⟩ = some (.int .i64 (n : Int)) ∧ w.cell? ⟨b, 1, none⟩ = some (.slice none 0 0) ∧ w.cell? ⟨b, 2, none⟩ = some (.map none) ∧ w.cell? ⟨b, 3, none⟩ = some (.bool true)
theorem Dn.dd {w : World} {b n : Nat} (h : Dn w b n) : Dd w (.pointer (some ⟨b, 0, none⟩)) := ⟨b, n, rfl, h⟩
theorem Dn.keep {S : Nat → Prop} {w w' : World} {b n : Nat} (h : Dn w b n) (k : Kp S w w') (hb : ¬ S b) : Dn w' b n := by
  obtain ⟨h0, c0, c1, c2, c3⟩ := h
  exact ⟨h0, k.cellv c0 hb, k.cellv c1 hb, k.cellv c2 hb, k.cellv c3 hb⟩
theorem Dn.lt {w : World} {b n : Nat} (h : Dn w b n) : b < w.heap.size := World.block_lt_of_cell? w _ h.2.1

set_option maxRecDepth 100000 in
set_option maxHeartbeats 400000 in
theorem read_away {w : World} {b d m n q : Nat} {dur : List Nat} {T : Nat → Option (List Nat)} (h : Pt w b d m n q dur T) (i : Int) (hi : ¬ (0 ≤ i ∧ i < (n : Int))) :
    Calls Tryz.prog 177 #[.pointer (some ⟨b, 0, none⟩), .int .i64 i] w fun e w' => e = .returned (.tuple #[.slice none 0 0, .int .i64 1]) ∧ w' = w := by
  have H : Hid (Calls _ _ _ w _) := has_out h i hi
  clear h
  go_enter Tryz.func177, Tryz.ntmps177
  go_wp2_with (go_at_call 212; refine H.out.mono ?_; rintro e w' ⟨rfl, hw⟩; obtain rfl := hw.symm)
  go_ret2
  exact ⟨rfl, rfl⟩

set_option maxRecDepth 100000 in
set_option maxHeartbeats 400000 in
theorem sectors6_ok {w : World} {b d m n q : Nat} {dur : List Nat} {T : Nat → Option (List Nat)} (h : Pt w b d m n q dur T) :
    Calls Tryz.prog 59 #[.pointer (some ⟨b, 0, none⟩)] w fun e w' => e = .returned (.int .i64 (n : Int)) ∧ w' = w := by
  have H : Hid (Calls _ _ _ w _) := made_ok h
  have c0 := h.c0
  clear h
  go_enter Tryz.func59, Tryz.ntmps59
  go_wp2_with (go_at_call 53; refine H.out.mono ?_; rintro e w' ⟨rfl, hw⟩; obtain rfl := hw.symm)
  go_ret
  exact ⟨rfl, rfl⟩

set_option maxRecDepth 100000 in
set_option maxHeartbeats 400000 in
theorem sectors_dn {w : World} {b n : Nat} (h : Dn w b n) :
    Calls Tryz.prog 59 #[.pointer (some ⟨b, 0, none⟩)] w fun e w' => e = .returned (.int .i64 (n : Int)) ∧ w' = w := by
  have H : Hid (Calls _ _ _ w _) := made_dead _ w h.dd
  have c0 := h.2.1
  clear h
  go_enter Tryz.func59, Tryz.ntmps59
  go_wp2_with (go_at_call 53; refine H.out.mono ?_; rintro e w' ⟨rfl, hw⟩; obtain rfl := hw.symm)
  go_ret
  exact ⟨rfl, rfl⟩

/-- the reference's Sync -/
theorem mem_mks {df : Nat → Bool} {n : Nat} {x : Int} : x ∈ mks df n ↔ ∃ i, i < n ∧ df i = true ∧ (i : Int) = x := by
  unfold mks
  simp only [List.mem_map, List.mem_filter, List.mem_range]
  constructor
  · rintro ⟨i, ⟨h1, h2⟩, h3⟩; exact ⟨i, h1, h2, h3⟩
  · rintro ⟨i, h1, h2, h3⟩; exact ⟨i, ⟨h1, h2⟩, h3⟩

set_option maxRecDepth 100000 in
set_option maxHeartbeats 800000 in
theorem refSync_ok {w : World} {x tb tw td n : Nat} {Bf Wf : Nat → List Nat} {df : Nat → Bool} {Y : Nat → Prop} (h : Rp w x tb tw td n Bf Wf df Y) (hY : ∀ z, Y z → z < w.heap.size) :
    Calls Tryz.prog 160 #[.pointer (some ⟨x, 0, none⟩)] w fun e w' => e = .returned (.int .i64 0) ∧ Kp (fun z => z = tb ∨ z = tw ∨ z = td) w w' ∧ Rp w' x tb tw td n (crB Bf Wf df (mks df n) (-1) 0) (crB Bf Wf df (mks df n) (-1) 0) (fun _ => false) Y := by
  have c3 := h.c3
  have H1 : Hid (Calls _ _ _ w _) := refDirty_ok h
  have H2 : Hid (∀ w1, Kp (fun _ => False) w w1 → ∀ v, Is w1 w.heap.size v (mks df n) → ∃ p c, v = .slice p (mks df n).length c ∧ Calls Tryz.prog 201 #[.pointer (some ⟨x, 0, none⟩), .slice p (mks df n).length c, .int .i64 (-1), .int .i64 0] w1 fun e w' => e = .returned (.int .i64 0) ∧ Kp (fun z => z = tb ∨ z = tw ∨ z = td) w1 w' ∧ Rp w' x tb tw td n (crB Bf Wf df (mks df n) (-1) 0) (crB Bf Wf df (mks df n) (-1) 0) (fun _ => false) Y) := fun w1 k1 v is1 => by
    obtain ⟨p, c, e, rz, hp⟩ := is1.rz
    have hlt := h.lt
    refine ⟨p, c, e, ?_⟩
    have hr := refCrash_ok (h.keep k1 (fun _ e => e.elim) id id id id) (fun z hz => Nat.lt_of_lt_of_le (hY z hz) k1.size) p c (mks df n) (-1) 0 (fun w' k' => rz.keep k' (fun a ha e => by have := (hp a ha).1; rcases e with e | e | e <;> (rw [e] at this; omega))) (by have := mks_len df n; have := h.n2; omega)
    exact hr
  clear h
  go_enter Tryz.func160, Tryz.ntmps160
  go_wp2_with fail
  refine H1.out.mono ?_
  rintro e w1 ⟨v1, rfl, k1, is1⟩
  obtain ⟨p1, c1, rfl, hC⟩ := H2.out w1 k1 v1 is1
  have HC : Hid (Calls _ _ _ w1 _) := hC
  have k1F : Hid (Kp (fun z => z = tb ∨ z = tw ∨ z = td) w w1) := k1.mono (fun _ _ e => e.elim)
  clear H1 H2 is1 hC
  obtain ⟨l1, hl1⟩ : ∃ l, l = (mks df n).length := ⟨_, rfl⟩
  rw [← hl1] at HC ⊢
  clear hl1
  go_wp2_with (go_at_call 201; refine HC.out.mono ?_; rintro e w2 ⟨rfl, k2, hR2⟩)
  go_ret
  exact ⟨rfl, k1F.out.trans k2 (fun _ _ e => e), hR2⟩

/-- the two, both as they should be: F the blocks that calls may change, Y blocks besides that what they have does not lie in -/
structure Al (w : World) (b d m x tb tw td n q : Nat) (dur : List Nat) (T : Nat → Option (List Nat)) (Y : Nat → Prop) : Prop where
  P : Pt w b d m n q dur T
  R : Rp w x tb tw td n (secOf dur) (nowOf dur T) (fun j => (T j).isSome) (fun z => z = b ∨ z = d ∨ z = m ∨ Y z)
  ne : ∀ z, z = b ∨ z = d ∨ z = m → ¬ (z = x ∨ z = tb ∨ z = tw ∨ z = td)
def Pr (w : World) (b x n q : Nat) (F Y : Nat → Prop) : Prop :=
  (∀ z, F z → z < w.heap.size) ∧ F b ∧ F x ∧ (1 ≤ n ∧ n ≤ 8192) ∧ ((∃ d m tb tw td dur T, Al w b d m x tb tw td n q dur T Y ∧ F d ∧ F m ∧ F tb ∧ F tw ∧ F td) ∨ (Dn w b n ∧ Rdead w x n Y))
theorem Pt.mono {w : World} {b d m n q q' : Nat} {dur : List Nat} {T : Nat → Option (List Nat)} (h : Pt w b d m n q dur T) (hq : q ≤ q') : Pt w b d m n q' dur T :=
  ⟨h.c0, h.c1, h.c2, h.c3, h.fz, h.row, h.len, h.byte, h.mp.mono hq, h.bd, h.bm, h.dm, h.n1, h.n2⟩
theorem Pr.mono {w : World} {b x n q q' : Nat} {F Y : Nat → Prop} (h : Pr w b x n q F Y) (hq : q ≤ q') : Pr w b x n q' F Y := by
  obtain ⟨h1, h2, h3, h4, h5⟩ := h
  refine ⟨h1, h2, h3, h4, ?_⟩
  rcases h5 with ⟨d, m, tb, tw, td, dur, T, hA, hf⟩ | h5
  · exact Or.inl ⟨d, m, tb, tw, td, dur, T, ⟨hA.P.mono hq, hA.R, hA.ne⟩, hf⟩
  · exact Or.inr h5
theorem Pr.keep {S : Nat → Prop} {w w' : World} {b x n q : Nat} {F Y : Nat → Prop} (h : Pr w b x n q F Y) (k : Kp S w w') (hF : ∀ z, S z → ¬ F z) (hY : ∀ z, S z → Y z) : Pr w' b x n q F Y := by
  obtain ⟨h1, h2, h3, h4, h5⟩ := h
  have nS : ∀ z, F z → ¬ S z := fun z hz hs => hF z hs hz
  refine ⟨fun z hz => Nat.lt_of_lt_of_le (h1 z hz) k.size, h2, h3, h4, ?_⟩
  rcases h5 with ⟨d, m, tb, tw, td, dur, T, hA, fd, fm, f1, f2, f3⟩ | ⟨hD, hR⟩
  · exact Or.inl ⟨d, m, tb, tw, td, dur, T, ⟨hA.P.keep k (nS _ h2) (nS _ fd) (nS _ fm), hA.R.keep k (fun z hs => Or.inr (Or.inr (Or.inr (hY z hs)))) (nS _ h3) (nS _ f1) (nS _ f2) (nS _ f3), hA.ne⟩, fd, fm, f1, f2, f3⟩
  · exact Or.inr ⟨hD.keep k (nS _ h2), hR.keep k (nS _ h3) hY⟩
theorem Pr.keep0 {w w' : World} {b x n q : Nat} {F Y : Nat → Prop} (h : Pr w b x n q F Y) (k : Kp (fun _ => False) w w') : Pr w' b x n q F Y := h.keep k (fun _ e => e.elim) (fun _ e => e.elim)
theorem Tr.fresh {X X' : Nat → Prop} {w : World} {t n : Nat} {N : Nat → List Nat} (h : Tr w t n N X') (hX : ∀ z, z < w.heap.size → X z → X' z) : Tr w t n N X := by
  obtain ⟨cp, V, h1, h2, h3⟩ := h
  refine ⟨cp, V, h1, h2, fun r hr => ?_⟩
  obtain ⟨bb, o, c, x1, x2, x3, x4⟩ := h3 r hr
  obtain ⟨b', o', e, hc⟩ := x3.cell 0 (by omega)
  have hb : bb < w.heap.size := by cases e; exact World.block_lt_of_cell? w _ hc
  exact ⟨bb, o, c, x1, x2, x3, fun e => x4 (hX _ hb e)⟩
/-- blocks that are not there yet may be named, too -/
theorem Pr.fresh {w : World} {b x n q : Nat} {F Y Y' : Nat → Prop} (h : Pr w b x n q F Y) (hY : ∀ z, Y' z → w.heap.size ≤ z) : Pr w b x n q F Y' := by
  obtain ⟨h1, h2, h3, h4, h5⟩ := h
  refine ⟨h1, h2, h3, h4, ?_⟩
  rcases h5 with ⟨d, m, tb, tw, td, dur, T, hA, hf⟩ | ⟨hD, hR⟩
  · have hx : ∀ z, z < w.heap.size → Xs x tb tw td (fun z => z = b ∨ z = d ∨ z = m ∨ Y' z) z → Xs x tb tw td (fun z => z = b ∨ z = d ∨ z = m ∨ Y z) z := fun z hz e => by
      rcases e with e | e | e | e | e | e | e | e
      · exact Or.inl e
      · exact Or.inr (Or.inl e)
      · exact Or.inr (Or.inr (Or.inl e))
      · exact Or.inr (Or.inr (Or.inr (Or.inl e)))
      · exact Or.inr (Or.inr (Or.inr (Or.inr (Or.inl e))))
      · exact Or.inr (Or.inr (Or.inr (Or.inr (Or.inr (Or.inl e)))))
      · exact Or.inr (Or.inr (Or.inr (Or.inr (Or.inr (Or.inr (Or.inl e))))))
      · have := hY z e; omega
    have hr := hA.R
    exact Or.inl ⟨d, m, tb, tw, td, dur, T, ⟨hA.P, ⟨hr.c0, hr.c1, hr.c2, hr.c3, hr.fz, hr.B.fresh hx, hr.W.fresh hx, hr.D, hr.ne, hr.n1, hr.n2⟩, hA.ne⟩, hf⟩
  · exact Or.inr ⟨hD, hR.fresh h4.1 hY⟩
end Go.Proofs.YtippipeebkkghaaGreatDoor
