/- A plate and the reference's: their calls answer alike. -/
import Derived.Test.YtippipeebkkghaaGreatDoorPa
namespace Go.Proofs.YtippipeebkkghaaGreatDoor
open Go.RowKit Go.Deep Go.Maps

theorem nowOf_none (dur : List Nat) (j : Nat) : nowOf dur (fun _ => none) j = secOf dur j := rfl
theorem nowOf_of_none {dur : List Nat} {T : Nat → Option (List Nat)} {j : Nat} (h : T j = none) : nowOf dur T j = secOf dur j := by unfold nowOf; rw [h]; rfl
theorem nowOf_of_some {dur : List Nat} {T : Nat → Option (List Nat)} {j : Nat} {xs : List Nat} (h : T j = some xs) : nowOf dur T j = xs := by unfold nowOf; rw [h]; rfl
theorem nowOf_put (dur : List Nat) (T : Nat → Option (List Nat)) (k : Nat) (xs : List Nat) (j : Nat) : (if j = k then xs else nowOf dur T j) = nowOf dur (fun j => if j = k then some xs else T j) j := by
  by_cases e : j = k
  · rw [if_pos e, nowOf_of_some (xs := xs) (if_pos e)]
  · rw [if_neg e]; unfold nowOf; simp only [if_neg e]
theorem some_put (T : Nat → Option (List Nat)) (k : Nat) (xs : List Nat) (j : Nat) : (if j = k then true else (T j).isSome) = (if j = k then some xs else T j).isSome := by
  by_cases e : j = k
  · rw [if_pos e, if_pos e]; rfl
  · rw [if_neg e, if_neg e]
/-- what the reference's crash leaves is what the plate's leaves -/
theorem crash_same {w : World} {b d m n q : Nat} {dur : List Nat} {T : Nat → Option (List Nat)} (h : Pt w b d m n q dur T) (zs : List Int) (i x : Int) {j : Nat} (hj : j < n) :
    crB (secOf dur) (nowOf dur T) (fun j => (T j).isSome) zs i (torn64 x) j = secOf (crashD dur T zs i x) j := by
  rw [secOf_crash h.len hj h.tlen]
  unfold crB
  cases hT : T j with
  | none =>
    rw [nowOf_of_none hT, if_neg (fun h => by have := h.1; simp [hT] at this), if_neg (fun h => by have := h.1; simp [hT] at this)]
    unfold mixS
    rw [hT]
    split
    · rfl
    · split <;> rfl
  | some xs =>
    have hs : (fun j => (T j).isSome) j = true := by simp [hT]
    rw [nowOf_of_some hT]
    unfold mixS
    rw [hT]
    by_cases e1 : (j : Int) ∈ zs
    · rw [if_pos ⟨hs, e1⟩, if_neg (fun h => h.2 e1), if_pos e1]
    · rw [if_neg (fun h => e1 h.2)]
      by_cases e2 : (j : Int) = i
      · rw [if_pos ⟨hs, e2⟩, if_pos ⟨e2, e1⟩]
      · rw [if_neg (fun h => e2 h.2), if_neg (fun h => e2 h.1), if_neg e1]
theorem sync_same {w : World} {b d m n q : Nat} {dur : List Nat} {T : Nat → Option (List Nat)} (h : Pt w b d m n q dur T) {j : Nat} (hj : j < n) :
    crB (secOf dur) (nowOf dur T) (fun j => (T j).isSome) (mks (fun j => (T j).isSome) n) (-1) 0 j = secOf (durAll dur T n) j := by
  rw [← nowOf_none, nowOf_sync h hj]
  unfold crB
  cases hT : T j with
  | none =>
    rw [nowOf_of_none hT, if_neg (fun h => by have := h.1; simp [hT] at this), if_neg (fun h => by have := h.1; simp [hT] at this)]
  | some xs =>
    have hs : (fun j => (T j).isSome) j = true := by simp [hT]
    rw [if_pos ⟨hs, mem_mks.2 ⟨j, hj, hs, rfl⟩⟩]

abbrev N0 : Nat → Prop := fun _ => False
theorem Al.lt {w : World} {b d m x tb tw td n q : Nat} {dur : List Nat} {T : Nat → Option (List Nat)} {Y : Nat → Prop} (h : Al w b d m x tb tw td n q dur T Y) (hY : ∀ z, Y z → z < w.heap.size) : ∀ z, (z = b ∨ z = d ∨ z = m ∨ Y z) → z < w.heap.size := fun z e => by
  rcases e with e | e | e | e
  · subst e; exact h.P.lt
  · subst e; exact h.P.row.lt
  · subst e; exact h.P.mp.lt
  · exact hY z e

theorem write_pair {w : World} {b x n q : Nat} {F Y : Nat → Prop} (h : Pr w b x n q F Y) (hY : ∀ z, Y z → z < w.heap.size) (hq : (q : Int) < 9223372036854775807) (i : Int) (p1 p2 : Option Addr) (l c1 c2 : Nat) (xs : List Nat) (h1 : Rb w p1 l xs) (h2 : ∀ w', Kp F w w' → Rb w' p2 l xs) :
    Calls Tryz.prog 206 #[.pointer (some ⟨b, 0, none⟩), .int .i64 i, .slice p1 l c1] w fun e w1 => ∃ c : Int, e = .returned (.int .i64 c) ∧ Kp F w w1 ∧
      Calls Tryz.prog 159 #[.pointer (some ⟨x, 0, none⟩), .int .i64 i, .slice p2 l c2] w1 fun e' w2 => e' = .returned (.int .i64 c) ∧ Kp F w1 w2 ∧ Pr w2 b x n (q + 1) F Y := by
  obtain ⟨hF, Fb, Fx, hn, hh⟩ := h
  rcases hh with ⟨d, m, tb, tw, td, dur, T, hA, Fd, Fm, Ftb, Ftw, Ftd⟩ | ⟨hD, hR⟩
  · have nm := hA.ne m (Or.inr (Or.inr rfl))
    by_cases hg : 0 ≤ i ∧ i < (n : Int) ∧ l = 64
    · obtain ⟨g0, g1, rfl⟩ := hg
      obtain ⟨k, rfl⟩ : ∃ k : Nat, i = (k : Int) := ⟨i.toNat, by omega⟩
      obtain ⟨bb, o, rfl, _⟩ := h1.pt (by omega)
      refine (write_ok hA.P hq k g1 bb o c1 xs h1).mono ?_
      rintro e w1 ⟨rfl, k1, hP1⟩
      have k1F : Kp F w w1 := k1.mono (fun z _ e => by rw [e]; exact Fm)
      refine ⟨0, rfl, k1F, ?_⟩
      have hR1 := hA.R.keep k1 (fun z e => Or.inr (Or.inr (Or.inl e))) (fun e => nm (Or.inl e.symm)) (fun e => nm (Or.inr (Or.inl e.symm))) (fun e => nm (Or.inr (Or.inr (Or.inl e.symm)))) (fun e => nm (Or.inr (Or.inr (Or.inr e.symm))))
      refine (refWrite_ok hR1 (fun z e => Nat.lt_of_lt_of_le (hA.lt hY z e) k1.size) k g1 p2 c2 xs (h2 w1 k1F)).mono ?_
      rintro e w2 ⟨rfl, k2, hR2⟩
      have nb := hA.ne b (Or.inl rfl)
      have nd := hA.ne d (Or.inr (Or.inl rfl))
      have tr : ∀ z, (z = tw ∨ z = td) → (z = x ∨ z = tb ∨ z = tw ∨ z = td) := fun z e => e.elim (fun e => Or.inr (Or.inr (Or.inl e))) (fun e => Or.inr (Or.inr (Or.inr e)))
      refine ⟨rfl, k2.mono (fun z _ e => by rcases e with e | e <;> (rw [e]; assumption)), fun z hz => Nat.lt_of_lt_of_le (hF z hz) (Nat.le_trans k1.size k2.size), Fb, Fx, hn, Or.inl ⟨d, m, tb, tw, td, dur, fun j => if j = k then some xs else T j, ⟨hP1.keep k2 (fun e => nb (tr _ e)) (fun e => nd (tr _ e)) (fun e => nm (tr _ e)), hR2.congr (fun _ _ => rfl) (fun j _ => nowOf_put dur T k xs j) (fun j _ => some_put T k xs j), hA.ne⟩, Fd, Fm, Ftb, Ftw, Ftd⟩⟩
    · refine (write_bad hA.P i p1 l c1 hg).mono ?_
      rintro e w1 ⟨rfl, hw⟩
      obtain rfl := hw.symm
      refine ⟨1, rfl, Kp.refl _ _, ?_⟩
      refine (refWrite_bad hA.R i p2 l c2 hg).mono ?_
      rintro e w2 ⟨rfl, hw⟩
      obtain rfl := hw.symm
      exact ⟨rfl, Kp.refl _ _, hF, Fb, Fx, hn, Or.inl ⟨d, m, tb, tw, td, dur, T, ⟨hA.P.mono (by omega), hA.R, hA.ne⟩, Fd, Fm, Ftb, Ftw, Ftd⟩⟩
  · refine (write_dead _ i _ w hD.dd).mono ?_
    rintro e w1 ⟨rfl, hw⟩
    obtain rfl := hw.symm
    refine ⟨60, rfl, Kp.refl _ _, ?_⟩
    refine (refWrite_dead hR i _).mono ?_
    rintro e w2 ⟨rfl, hw⟩
    obtain rfl := hw.symm
    exact ⟨rfl, Kp.refl _ _, hF, Fb, Fx, hn, Or.inr ⟨hD, hR⟩⟩

theorem sync_pair {w : World} {b x n q : Nat} {F Y : Nat → Prop} (h : Pr w b x n q F Y) (hY : ∀ z, Y z → z < w.heap.size) :
    Calls Tryz.prog 124 #[.pointer (some ⟨b, 0, none⟩)] w fun e w1 => ∃ c : Int, e = .returned (.int .i64 c) ∧ Kp F w w1 ∧
      Calls Tryz.prog 160 #[.pointer (some ⟨x, 0, none⟩)] w1 fun e' w2 => e' = .returned (.int .i64 c) ∧ Kp F w1 w2 ∧ Pr w2 b x n q F Y := by
  obtain ⟨hF, Fb, Fx, hn, hh⟩ := h
  rcases hh with ⟨d, m, tb, tw, td, dur, T, hA, Fd, Fm, Ftb, Ftw, Ftd⟩ | ⟨hD, hR⟩
  · have nb := hA.ne b (Or.inl rfl)
    have nd := hA.ne d (Or.inr (Or.inl rfl))
    have nm := hA.ne m (Or.inr (Or.inr rfl))
    refine (sync_ok hA.P).mono ?_
    rintro e w1 ⟨rfl, k1, hP1⟩
    have k1F : Kp F w w1 := k1.mono (fun z _ e => by rcases e with e | e <;> (rw [e]; assumption))
    refine ⟨0, rfl, k1F, ?_⟩
    have ux : ∀ z, (z = x ∨ z = tb ∨ z = tw ∨ z = td) → ¬ (z = d ∨ z = m) := fun z e e2 => by
      rcases e2 with e2 | e2
      · rw [e2] at e; exact nd e
      · rw [e2] at e; exact nm e
    have hR1 := hA.R.keep k1 (fun z e => Or.inr (e.elim Or.inl (fun e => Or.inr (Or.inl e)))) (ux x (Or.inl rfl)) (ux tb (Or.inr (Or.inl rfl))) (ux tw (Or.inr (Or.inr (Or.inl rfl)))) (ux td (Or.inr (Or.inr (Or.inr rfl))))
    refine (refSync_ok hR1 (fun z e => Nat.lt_of_lt_of_le (hA.lt hY z e) k1.size)).mono ?_
    rintro e w2 ⟨rfl, k2, hR2⟩
    refine ⟨rfl, k2.mono (fun z _ e => by rcases e with e | e | e <;> (rw [e]; assumption)), fun z hz => Nat.lt_of_lt_of_le (hF z hz) (Nat.le_trans k1.size k2.size), Fb, Fx, hn, Or.inl ⟨d, m, tb, tw, td, durAll dur T n, fun _ => none, ⟨(hP1.keep k2 (fun e => nb (Or.inr e)) (fun e => nd (Or.inr e)) (fun e => nm (Or.inr e))).mono (Nat.zero_le _), hR2.congr (fun j hj => sync_same hA.P hj) (fun j hj => (sync_same hA.P hj).trans (nowOf_none _ _).symm) (fun _ _ => rfl), hA.ne⟩, Fd, Fm, Ftb, Ftw, Ftd⟩⟩
  · refine (sync_dead _ w hD.dd).mono ?_
    rintro e w1 ⟨rfl, hw⟩
    obtain rfl := hw.symm
    refine ⟨60, rfl, Kp.refl _ _, ?_⟩
    refine (refSync_dead hR).mono ?_
    rintro e w2 ⟨rfl, hw⟩
    obtain rfl := hw.symm
    exact ⟨rfl, Kp.refl _ _, hF, Fb, Fx, hn, Or.inr ⟨hD, hR⟩⟩

theorem crash_pair {w : World} {b x n q : Nat} {F Y : Nat → Prop} (h : Pr w b x n q F Y) (hY : ∀ z, Y z → z < w.heap.size) (p1 p2 : Option Addr) (c1 c2 : Nat) (zs : List Int) (i nn : Int) (h1 : ∀ w', Kp F w w' → Rz w' p1 zs) (h2 : ∀ w', Kp F w w' → Rz w' p2 zs) (hzw : ∀ z ∈ zs, (Lit.int .i64 z).wf = true) (hw : (Lit.int .i64 i).wf = true) (hl : (zs.length : Int) ≤ 9223372036854775807) :
    Calls Tryz.prog 7 #[.pointer (some ⟨b, 0, none⟩), .slice p1 zs.length c1, .int .i64 i, .int .i64 nn] w fun e w1 => ∃ c : Int, e = .returned (.int .i64 c) ∧ Kp F w w1 ∧
      Calls Tryz.prog 201 #[.pointer (some ⟨x, 0, none⟩), .slice p2 zs.length c2, .int .i64 i, .int .i64 nn] w1 fun e' w2 => e' = .returned (.int .i64 c) ∧ Kp F w1 w2 ∧ Pr w2 b x n q F Y := by
  obtain ⟨hF, Fb, Fx, hn, hh⟩ := h
  rcases hh with ⟨d, m, tb, tw, td, dur, T, hA, Fd, Fm, Ftb, Ftw, Ftd⟩ | ⟨hD, hR⟩
  · have nb := hA.ne b (Or.inl rfl)
    have nd := hA.ne d (Or.inr (Or.inl rfl))
    have nm := hA.ne m (Or.inr (Or.inr rfl))
    refine (crash_ok hA.P p1 c1 zs i nn (fun w' k' => h1 w' (k'.mono (fun z _ e => by rw [e]; exact Fd))) hzw hw hl).mono ?_
    rintro e w1 ⟨rfl, k1, hP1⟩
    have k1F : Kp F w w1 := k1.mono (fun z _ e => by rcases e with e | e <;> (rw [e]; assumption))
    refine ⟨0, rfl, k1F, ?_⟩
    have ux : ∀ z, (z = x ∨ z = tb ∨ z = tw ∨ z = td) → ¬ (z = d ∨ z = m) := fun z e e2 => by
      rcases e2 with e2 | e2
      · rw [e2] at e; exact nd e
      · rw [e2] at e; exact nm e
    have hR1 := hA.R.keep k1 (fun z e => Or.inr (e.elim Or.inl (fun e => Or.inr (Or.inl e)))) (ux x (Or.inl rfl)) (ux tb (Or.inr (Or.inl rfl))) (ux tw (Or.inr (Or.inr (Or.inl rfl)))) (ux td (Or.inr (Or.inr (Or.inr rfl))))
    refine (refCrash_ok hR1 (fun z e => Nat.lt_of_lt_of_le (hA.lt hY z e) k1.size) p2 c2 zs i nn (fun w' k' => h2 w' (k1F.trans (k'.mono (S' := F) (fun z _ e => by rcases e with e | e | e <;> (rw [e]; assumption))) (fun _ _ e => e))) hl).mono ?_
    rintro e w2 ⟨rfl, k2, hR2⟩
    refine ⟨rfl, k2.mono (fun z _ e => by rcases e with e | e | e <;> (rw [e]; assumption)), fun z hz => Nat.lt_of_lt_of_le (hF z hz) (Nat.le_trans k1.size k2.size), Fb, Fx, hn, Or.inl ⟨d, m, tb, tw, td, crashD dur T zs i nn, fun _ => none, ⟨(hP1.keep k2 (fun e => nb (Or.inr e)) (fun e => nd (Or.inr e)) (fun e => nm (Or.inr e))).mono (Nat.zero_le _), hR2.congr (fun j hj => crash_same hA.P zs i nn hj) (fun j hj => (crash_same hA.P zs i nn hj).trans (nowOf_none _ _).symm) (fun _ _ => rfl), hA.ne⟩, Fd, Fm, Ftb, Ftw, Ftd⟩⟩
  · refine (crash_dead _ _ i nn w hD.dd).mono ?_
    rintro e w1 ⟨rfl, hw⟩
    obtain rfl := hw.symm
    refine ⟨60, rfl, Kp.refl _ _, ?_⟩
    refine (refCrash_dead hR _ i nn).mono ?_
    rintro e w2 ⟨rfl, hw⟩
    obtain rfl := hw.symm
    exact ⟨rfl, Kp.refl _ _, hF, Fb, Fx, hn, Or.inr ⟨hD, hR⟩⟩

end Go.Proofs.YtippipeebkkghaaGreatDoor
