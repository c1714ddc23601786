/- Few records: what they come to; Life; a shelf of a new plate, as the verifier makes it. -/
import Derived.Test.YtippipeebkkghaaGreatDoorIo
namespace Go.Proofs.YtippipeebkkghaaGreatDoor
set_option linter.unusedVariables false
set_option linter.unusedSimpArgs false
open Go.RowKit Go.Deep Go.Maps

theorem stS_at (h : List Rc) (r : Rc) (x : K3) : (stS (h ++ [r])).1 x = if x = subS r then (if staysS r = true then some r else none) else (stS h).1 x := by
  rw [stS_snoc]
  rfl

theorem stS_shard (h : List Rc) (b i : Nat) (xs : List Nat) : (stS (h ++ [⟨1, b, i, 0, xs⟩])).1 ⟨1, (b : Int), (i : Int)⟩ = some ⟨1, b, i, 0, xs⟩ ∧ ∀ b' i', fncd (h ++ [⟨1, b, i, 0, xs⟩]) b' i' = fncd h b' i' := by
  refine ⟨?_, fun b' i' => ?_⟩
  · rw [stS_at]
    rw [if_pos (by simp [subS]), if_pos (by simp [staysS])]
  · unfold fncd
    rw [stS_at]
    rw [if_neg (by simp [subS])]

theorem stS_drop (h : List Rc) (b i : Nat) : (stS (h ++ [⟨2, b, i, 0, []⟩])).1 ⟨1, (b : Int), (i : Int)⟩ = none ∧ ∀ b' i', fncd (h ++ [⟨2, b, i, 0, []⟩]) b' i' = fncd h b' i' := by
  refine ⟨?_, fun b' i' => ?_⟩
  · rw [stS_at]
    rw [if_pos (by simp [subS]), if_neg (by simp [staysS])]
  · unfold fncd
    rw [stS_at]
    rw [if_neg (by simp [subS])]

theorem stS_fence (h : List Rc) (b i e : Nat) (he : 0 < e) : fncd (h ++ [⟨3, b, i, e, []⟩]) b i = e ∧ ∀ b' i' : Int, (stS (h ++ [⟨3, b, i, e, []⟩])).1 ⟨1, b', i'⟩ = (stS h).1 ⟨1, b', i'⟩ := by
  refine ⟨?_, fun b' i' => ?_⟩
  · unfold fncd
    rw [stS_at]
    rw [if_pos (by simp [subS]), if_pos (by simp [staysS, he])]
  · rw [stS_at]
    rw [if_neg (by simp [subS])]

theorem fncd_nil (b i : Nat) : fncd [] b i = 0 := by unfold fncd; rw [stS_nil]

theorem secS_small {r : Rc} (h : GoodR r) (hb : r.b.length ≤ 600) : secS r ≤ 16 := by
  have := wrS_len h
  unfold secS needW
  omega

theorem totW_small : ∀ (h : List Rc), (∀ r ∈ h, GoodR r ∧ r.b.length ≤ 600) → totW (h.map wrS) ≤ 16 * h.length
  | [], _ => Nat.le_refl _
  | r :: l, h => by
    have h1 := secS_small (h r List.mem_cons_self).1 (h r List.mem_cons_self).2
    have h2 := totW_small l (fun x hx => h x (List.mem_cons_of_mem _ hx))
    show secS r + totW (l.map wrS) ≤ 16 * (l.length + 1)
    omega

theorem fits_small {h : List Rc} {r : Rc} (hg : ∀ r ∈ h, GoodR r ∧ r.b.length ≤ 600) (hr : GoodR r ∧ r.b.length ≤ 600) (hn : h.length ≤ 5) :
    2 * (secS r : Int) + (stS h).2 + (totW (h.map wrS) : Int) ≤ ((298 : Nat) : Int) ∧ totW (h.map wrS) + secS r ≤ 298 := by
  have h1 := secS_small hr.1 hr.2
  have h2 := totW_small h hg
  have h3 := stS_le h
  omega

theorem good1 {b i : Nat} {xs : List Nat} (hb : b ≤ 1152921504606846976) (hi : i ≤ 1152921504606846976) (hx : ∀ x ∈ xs, x < 256) (hl : xs.length ≤ 600) : GoodR ⟨1, b, i, 0, xs⟩ ∧ xs.length ≤ 600 :=
  ⟨⟨⟨show 1 ≤ 1 by omega, show 1 ≤ 4 by omega⟩, hb, hi, show 0 ≤ _ by omega, hx, show xs.length ≤ 1980 by omega, fun h => by rcases h with h | h <;> exact absurd (show 1 = _ from h) (by decide)⟩, hl⟩

theorem good2 {b i : Nat} (hb : b ≤ 1152921504606846976) (hi : i ≤ 1152921504606846976) : GoodR ⟨2, b, i, 0, []⟩ ∧ ([] : List Nat).length ≤ 600 :=
  ⟨⟨⟨show 1 ≤ 2 by omega, show 2 ≤ 4 by omega⟩, hb, hi, show 0 ≤ _ by omega, fun x hx => absurd hx List.not_mem_nil, show 0 ≤ 1980 by omega, fun _ => rfl⟩, Nat.zero_le _⟩

theorem good3 {b i e : Nat} (hb : b ≤ 1152921504606846976) (hi : i ≤ 1152921504606846976) (he : e ≤ 1152921504606846976) : GoodR ⟨3, b, i, e, []⟩ ∧ ([] : List Nat).length ≤ 600 :=
  ⟨⟨⟨show 1 ≤ 3 by omega, show 3 ≤ 4 by omega⟩, hb, hi, he, fun x hx => absurd hx List.not_mem_nil, show 0 ≤ 1980 by omega, fun _ => rfl⟩, Nat.zero_le _⟩

set_option maxRecDepth 100000 in
theorem slife_ok {w : World} {Z : Nat → Prop} {sh mp g bp d m gf s a b c e y : Nat} {dur : List Nat} {h : List Rc} (x : Shf w Z sh mp g bp d m gf s a b c e y dur h) :
    Calls Tryz.prog 32 #[.pointer (some ⟨sh, 0, none⟩)] w fun e9 w' => e9 = .returned (.int .i64 b) ∧ w' = w := by
  obtain ⟨q, lt, T, hl⟩ := x.lg
  have c0 : w.cell? ⟨sh, 0, none⟩ = some (.pointer (some ⟨g, 0, none⟩)) := x.sk.l.cell (j := 0) rfl
  have HM : Hid (Calls _ _ _ w _) := smade_ok c0
  have HL : Hid (Calls Tryz.prog 66 #[.pointer (some ⟨g, 0, none⟩)] w fun e9 w' => e9 = .returned (.int .i64 b) ∧ w' = w) := life_ok hl.wl
  clear hl x
  go_enter Tryz.func32, Tryz.ntmps32
  go_wp2_with fail
  refine HM.out.mono ?_
  rintro e9 w9 ⟨rfl, hw9⟩
  have hw8 := hw9.symm
  subst hw8
  clear hw9 HM
  go_wp2_with fail
  refine HL.out.mono ?_
  rintro e9 w9 ⟨rfl, hw9⟩
  have hw8 := hw9.symm
  subst hw8
  clear hw9 HL
  go_wp2
  go_ret
  exact ⟨rfl, rfl⟩

end Go.Proofs.YtippipeebkkghaaGreatDoor
