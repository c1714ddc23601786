/- Texts of this proof, joined: Bo, Io, Iq. -/
import Derived.Test.YtmooddbhcccicaaGreatDoorMgBA
import Derived.Test.YtmooddbhcccicaaGreatDoorMgAY
import Derived.Handy
/- A log of a new plate, as the verifier makes it, with what its plate has. -/
namespace Go.Proofs.YtmooddbhcccicaaGreatDoor
set_option linter.unusedVariables false
set_option linter.unusedSimpArgs false
open Go.RowKit Go.Deep

theorem logN_new {n s : Nat} (hn : n = 2 + s) (hs : 1 ≤ s) : LogN (nowOf (wrHead (List.replicate (n * 64) 0) (fun _ => none) n 1 (hdB 1 1 0 1)) (fun _ => none)) s 1 1 0 1 [] := by
  have hj : ∀ j, j < n → nowOf (wrHead (List.replicate (n * 64) 0) (fun _ => none) n 1 (hdB 1 1 0 1)) (fun _ => none) j = if j = 1 then hdB 1 1 0 1 else nouW 64 := fun j hj => by
    rw [nowOf_wrHead (List.length_replicate ..) (fun _ _ h => by cases h) (hdB_len _ _ _ _) hj, nowOf_new n j hj]
  refine ⟨by rw [hj _ (by omega)]; rfl, fun i hi hne hok => ?_, trivial, Nat.zero_le _, fun t _ ht => ?_, fun ys h => by cases h⟩
  · rw [hj i (by omega), if_neg (by omega), okH_nou] at hok
    cases hok
  · rw [hj _ (by have := Nat.mod_lt (0 + t) (show 0 < s by omega); omega), if_neg (by omega)]

end Go.Proofs.YtmooddbhcccicaaGreatDoor

/- A shelf of a new plate: Open. -/
namespace Go.Proofs.YtmooddbhcccicaaGreatDoor
set_option linter.unusedVariables false
set_option linter.unusedSimpArgs false
open Go.RowKit Go.Deep Go.Maps

set_option maxRecDepth 100000 in
theorem replay0_ok (sh : Nat) (w : World) : Calls Tryz.prog 56 #[.pointer (some ⟨sh, 0, none⟩), .slice none 0 0] w fun e w' => e = .returned .nilIface ∧ w' = w := by
  go_enter Tryz.func56, Tryz.ntmps56
  go_wp2
  go_rounds 1
  go_ret
  exact ⟨rfl, rfl⟩

theorem Sk.new (w : World) (Z : Nat → Prop) (g mp : Nat) (hm : Px3 w mp 0 (fun _ => none)) : Sk (w.alloc (.cells #[.pointer (some ⟨g, 0, none⟩), .map (some mp), .int .i64 0] 92)) Z w.heap.size mp g [] :=
  ⟨Lv.new w _ _, ⟨0, fun _ => none, Nat.le_refl _, hm.keep (S := fun _ => False) ((Kp.refl _ _).alloc _) id, fun x _ => ⟨fun _ => rfl, fun o ho => by rw [stS_nil] at ho; cases ho⟩⟩, fun r hr => absurd hr List.not_mem_nil, Nat.zero_le _⟩

set_option maxRecDepth 100000 in
set_option maxHeartbeats 1600000 in
theorem sopen_new {w : World} {bp d m s : Nat} (h : Pt w bp d m (2 + s) 0 (List.replicate ((2 + s) * 64) 0) (fun _ => none)) (hs : 4 ≤ s ∧ s ≤ 8190) (ht : Turns w) (htd : ¬ 0 = d ∧ ¬ 0 = m) :
    Calls Tryz.prog 26 #[.pointer (some ⟨bp, 0, none⟩)] w fun e9 w' => ∃ sh mp g gf dur, e9 = .returned (.tuple #[.pointer (some ⟨sh, 0, none⟩), .int .i64 0]) ∧ Kp (fun x => x = d ∨ x = m) w w' ∧ (w.heap.size ≤ sh ∧ w.heap.size ≤ mp ∧ w.heap.size ≤ g ∧ w.heap.size ≤ gf) ∧ Shf w' (fun x => w'.heap.size ≤ x) sh mp g bp d m gf s 1 1 0 1 0 dur [] := by
  have HO : Hid (Calls _ _ _ w _) := OpenNew_ok (s := s) h (by decide) rfl (by omega) (fun i hi => nowOf_new (2 + s) i hi) ht
  have HT : Hid (Turns w) := ht
  have HTd : Hid ((¬ (0 : Nat) = d ∧ ¬ (0 : Nat) = m) ∧ (0 : Nat) < w.heap.size ∧ bp < w.heap.size ∧ d < w.heap.size ∧ m < w.heap.size ∧ 4 ≤ s) := ⟨htd, World.block_lt_of_cell? _ _ (ht 0 (by decide)), h.lt, h.row.lt, h.mp.lt, hs.1⟩
  have HR : Hid (∀ sh u, Calls _ _ _ u _) := fun sh u => replay0_ok sh u
  have HIs : Hid (∀ u, Calls Tryz.prog 57 #[.nilIface, eno 70] u fun e w' => e = .returned (.bool false) ∧ w' = u) := fun u => is_nil 70 u
  have hmm : ∀ (t : TypeId) (w : World), (Instr.makeMap t none).run Tryz.prog w = .ok (.map (some w.heap.size)) (w.alloc (.map #[] 0)) := fun _ _ => rfl
  clear h hs ht htd
  go_enter Tryz.func26, Tryz.ntmps26
  go_wp2_with fail
  refine HO.out.mono ?_
  rintro e9 w2 ⟨g, gf, rfl, k2, p2, hg, hgf, l2⟩
  obtain ⟨mp, hmp⟩ : ∃ x, x = w2.heap.size := ⟨_, rfl⟩
  obtain ⟨w3, hw3⟩ : ∃ y, y = w2.alloc (.map #[] 0) := ⟨_, rfl⟩
  have hm3 : Px3 w3 mp 0 (fun _ => none) := by rw [hw3, hmp]; exact Px3.made w2
  have k3 : Kp (fun _ => False) w2 w3 := by rw [hw3]; exact (Kp.refl _ _).alloc _
  obtain ⟨sh, hsh⟩ : ∃ x, x = w3.heap.size := ⟨_, rfl⟩
  obtain ⟨w4, hw4⟩ : ∃ y, y = w3.alloc (.cells #[.pointer (some ⟨g, 0, none⟩), .map (some mp), .int .i64 0] 92) := ⟨_, rfl⟩
  have s4 : Sk w4 (fun x => w4.heap.size ≤ x) sh mp g [] := by rw [hw4, hsh]; exact Sk.new w3 _ g mp hm3
  have k4 : Kp (fun _ => False) w3 w4 := by rw [hw4]; exact (Kp.refl _ _).alloc _
  have hz : w3.heap.size = w2.heap.size + 1 ∧ w4.heap.size = w3.heap.size + 1 := ⟨by rw [hw3]; simp, by rw [hw4]; simp⟩
  have HF : Hid (Kp (fun x => x = d ∨ x = m) w w4 ∧ (w.heap.size ≤ sh ∧ w.heap.size ≤ mp ∧ w.heap.size ≤ g ∧ w.heap.size ≤ gf) ∧ Shf w4 (fun x => w4.heap.size ≤ x) sh mp g bp d m gf s 1 1 0 1 0 (wrHead (List.replicate ((2 + s) * 64) 0) (fun _ => none) (2 + s) 1 (hdB 1 1 0 1)) []) := by
    obtain ⟨⟨t1, t2⟩, t3, t4, t5, t6, t7⟩ := HTd.out
    have k24 : Kp (fun _ => False) w2 w4 := k3.trans k4 (fun _ _ e => e)
    have z1 := k2.size
    have z2 := l2.gl
    have z3 := l2.fl
    have hLg : Lg w2 g bp d m gf s 0 1 1 0 1 0 0 [] (wrHead (List.replicate ((2 + s) * 64) 0) (fun _ => none) (2 + s) 1 (hdB 1 1 0 1)) (fun _ => none) := ⟨p2, l2, logN_new rfl (by omega), DirtW.none _, Nat.le_refl _, rfl, by omega, by omega, ⟨by omega, by omega⟩, ⟨by omega, by omega⟩, ⟨by omega, by have := p2.n2; omega⟩, ⟨by omega, by omega, by omega, by omega, by omega, by omega, by omega, by omega, t1, t2⟩, Nat.le_refl _, fun _ _ => rfl⟩
    refine ⟨k2.trans (k24.mono (fun _ _ e => e.elim)) (fun _ _ e => e), ⟨by omega, by omega, by omega, by omega⟩, ⟨⟨0, 0, fun _ => none, hLg.keep0 k24⟩, s4, ?_, ⟨by omega, by omega, by omega⟩, fun x hx => ?_, ⟨by omega, by omega, by omega, by omega⟩, ⟨by omega, by omega⟩⟩⟩
    · exact (fun j hj => k24.cellv ((k2.cellv (HT.out j hj) (fun e => by rcases e with e | e; exact t1 e; exact t2 e))) id)
    · rcases hx with rfl | rfl | rfl <;> exact ⟨by omega, by omega, by omega⟩
  clear k2 p2 l2 hm3 k3 s4 k4 hz hg hgf HO
  go_wp2_with fail
  have hsh1 : mp + 1 = sh := by rw [hsh, hw3, hmp]; simp
  rw [← hmp, ← hw3, hsh1, ← hw4]
  clear hmp hw3 hsh hsh1 hw4
  refine (HR.out sh w4).mono ?_
  rintro e9 w9 ⟨rfl, hw9⟩
  have hw8 := hw9.symm
  subst hw8
  clear hw9
  go_wp2_with fail
  refine (HIs.out _).mono ?_
  rintro e9 w9 ⟨rfl, hw9⟩
  have hw8 := hw9.symm
  subst hw8
  clear hw9
  go_wp2_with fail
  go_ret2
  exact ⟨sh, mp, g, gf, _, rfl, HF.out⟩
end Go.Proofs.YtmooddbhcccicaaGreatDoor

/- Few records: what they come to; Life; a shelf of a new plate, as the verifier makes it. -/
namespace Go.Proofs.YtmooddbhcccicaaGreatDoor
set_option linter.unusedVariables false
set_option linter.unusedSimpArgs false
open Go.RowKit Go.Deep Go.Maps

theorem stS_at (h : List Rc) (r : Rc) (x : K3) : (stS (h ++ [r])).1 x = if x = subS r then (if staysS r = true then some r else none) else (stS h).1 x := by
  rw [stS_snoc]
  rfl
theorem stS_shard (h : List Rc) (b i : Nat) (xs : List Nat) : (stS (h ++ [⟨1, b, i, 0, xs⟩])).1 ⟨1, (b : Int), (i : Int)⟩ = some ⟨1, b, i, 0, xs⟩ ∧ ∀ b' i', fncd (h ++ [⟨1, b, i, 0, xs⟩]) b' i' = fncd h b' i' := by
  refine ⟨?_, fun b' i' => ?_⟩
  · rw [stS_at]
    rw [if_pos (by simp [subS]), if_pos (by simp [staysS])]
  · unfold fncd
    rw [stS_at]
    rw [if_neg (by simp [subS])]
theorem stS_drop (h : List Rc) (b i : Nat) : (stS (h ++ [⟨2, b, i, 0, []⟩])).1 ⟨1, (b : Int), (i : Int)⟩ = none ∧ ∀ b' i', fncd (h ++ [⟨2, b, i, 0, []⟩]) b' i' = fncd h b' i' := by
  refine ⟨?_, fun b' i' => ?_⟩
  · rw [stS_at]
    rw [if_pos (by simp [subS]), if_neg (by simp [staysS])]
  · unfold fncd
    rw [stS_at]
    rw [if_neg (by simp [subS])]
theorem stS_fence (h : List Rc) (b i e : Nat) (he : 0 < e) : fncd (h ++ [⟨3, b, i, e, []⟩]) b i = e ∧ ∀ b' i' : Int, (stS (h ++ [⟨3, b, i, e, []⟩])).1 ⟨1, b', i'⟩ = (stS h).1 ⟨1, b', i'⟩ := by
  refine ⟨?_, fun b' i' => ?_⟩
  · unfold fncd
    rw [stS_at]
    rw [if_pos (by simp [subS]), if_pos (by simp [staysS, he])]
  · rw [stS_at]
    rw [if_neg (by simp [subS])]
theorem fncd_nil (b i : Nat) : fncd [] b i = 0 := by unfold fncd; rw [stS_nil]

theorem secS_small {r : Rc} (h : GoodR r) (hb : r.b.length ≤ 600) : secS r ≤ 16 := by
  have := wrS_len h
  unfold secS needW
  omega
theorem totW_small : ∀ (h : List Rc), (∀ r ∈ h, GoodR r ∧ r.b.length ≤ 600) → totW (h.map wrS) ≤ 16 * h.length
  | [], _ => Nat.le_refl _
  | r :: l, h => by
    have h1 := secS_small (h r List.mem_cons_self).1 (h r List.mem_cons_self).2
    have h2 := totW_small l (fun x hx => h x (List.mem_cons_of_mem _ hx))
    show secS r + totW (l.map wrS) ≤ 16 * (l.length + 1)
    omega
theorem fits_small {h : List Rc} {r : Rc} (hg : ∀ r ∈ h, GoodR r ∧ r.b.length ≤ 600) (hr : GoodR r ∧ r.b.length ≤ 600) (hn : h.length ≤ 5) :
    2 * (secS r : Int) + (stS h).2 + (totW (h.map wrS) : Int) ≤ ((298 : Nat) : Int) ∧ totW (h.map wrS) + secS r ≤ 298 := by
  have h1 := secS_small hr.1 hr.2
  have h2 := totW_small h hg
  have h3 := stS_le h
  omega
theorem good1 {b i : Nat} {xs : List Nat} (hb : b ≤ 1152921504606846976) (hi : i ≤ 1152921504606846976) (hx : ∀ x ∈ xs, x < 256) (hl : xs.length ≤ 600) : GoodR ⟨1, b, i, 0, xs⟩ ∧ xs.length ≤ 600 :=
  ⟨⟨⟨show 1 ≤ 1 by omega, show 1 ≤ 4 by omega⟩, hb, hi, show 0 ≤ _ by omega, hx, show xs.length ≤ 1980 by omega, fun h => by rcases h with h | h <;> exact absurd (show 1 = _ from h) (by decide)⟩, hl⟩
theorem good2 {b i : Nat} (hb : b ≤ 1152921504606846976) (hi : i ≤ 1152921504606846976) : GoodR ⟨2, b, i, 0, []⟩ ∧ ([] : List Nat).length ≤ 600 :=
  ⟨⟨⟨show 1 ≤ 2 by omega, show 2 ≤ 4 by omega⟩, hb, hi, show 0 ≤ _ by omega, fun x hx => absurd hx List.not_mem_nil, show 0 ≤ 1980 by omega, fun _ => rfl⟩, Nat.zero_le _⟩
theorem good3 {b i e : Nat} (hb : b ≤ 1152921504606846976) (hi : i ≤ 1152921504606846976) (he : e ≤ 1152921504606846976) : GoodR ⟨3, b, i, e, []⟩ ∧ ([] : List Nat).length ≤ 600 :=
  ⟨⟨⟨show 1 ≤ 3 by omega, show 3 ≤ 4 by omega⟩, hb, hi, he, fun x hx => absurd hx List.not_mem_nil, show 0 ≤ 1980 by omega, fun _ => rfl⟩, Nat.zero_le _⟩

set_option maxRecDepth 100000 in
theorem slife_ok {w : World} {Z : Nat → Prop} {sh mp g bp d m gf s a b c e y : Nat} {dur : List Nat} {h : List Rc} (x : Shf w Z sh mp g bp d m gf s a b c e y dur h) :
    Calls Tryz.prog 27 #[.pointer (some ⟨sh, 0, none⟩)] w fun e9 w' => e9 = .returned (.int .i64 b) ∧ w' = w := by
  obtain ⟨q, lt, T, hl⟩ := x.lg
  have c0 : w.cell? ⟨sh, 0, none⟩ = some (.pointer (some ⟨g, 0, none⟩)) := x.sk.l.cell (j := 0) rfl
  have HM : Hid (Calls _ _ _ w _) := smade_ok c0
  have HL : Hid (Calls Tryz.prog 58 #[.pointer (some ⟨g, 0, none⟩)] w fun e9 w' => e9 = .returned (.int .i64 b) ∧ w' = w) := life_ok hl.wl
  clear hl x
  go_enter Tryz.func27, Tryz.ntmps27
  go_wp2_with fail
  refine HM.out.mono ?_
  rintro e9 w9 ⟨rfl, hw9⟩
  have hw8 := hw9.symm
  subst hw8
  clear hw9 HM
  go_wp2_with fail
  refine HL.out.mono ?_
  rintro e9 w9 ⟨rfl, hw9⟩
  have hw8 := hw9.symm
  subst hw8
  clear hw9 HL
  go_wp2
  go_ret
  exact ⟨rfl, rfl⟩

set_option maxRecDepth 100000 in
set_option maxHeartbeats 1600000 in
theorem fresh8_ok (w : World) (ht : Turns w) :
    Calls Tryz.prog 12 #[] w fun e9 w' => ∃ sh mp g gf bp d m dur, e9 = .returned (.tuple #[.pointer (some ⟨sh, 0, none⟩), .pointer (some ⟨bp, 0, none⟩)]) ∧ Kp (fun _ => False) w w' ∧ (w.heap.size ≤ sh ∧ w.heap.size ≤ mp ∧ w.heap.size ≤ g ∧ w.heap.size ≤ gf ∧ w.heap.size ≤ bp ∧ w.heap.size ≤ d ∧ w.heap.size ≤ m) ∧ Shf w' (fun x => w'.heap.size ≤ x) sh mp g bp d m gf 298 1 1 0 1 0 dur [] := by
  have HTl : Hid ((0 : Nat) < w.heap.size) := World.block_lt_of_cell? _ _ (ht 0 (by decide))
  have HNw : Hid (Calls Tryz.prog 28 #[.int .i64 300] w _) := new_ok 300 w (by omega) (by omega)
  have HT : Hid (Turns w) := ht
  clear ht
  go_enter Tryz.func12, Tryz.ntmps12
  go_wp2_with fail
  refine HNw.out.mono ?_
  rintro e9 w1 ⟨bp, d, m, rfl, k1, hb, hd, hm, p1⟩
  have HK1 : Hid (Kp (fun _ => False) w w1) := k1
  have HG : Hid (w.heap.size ≤ bp ∧ w.heap.size ≤ d ∧ w.heap.size ≤ m ∧ w.heap.size ≤ w1.heap.size) := ⟨hb, hd, hm, k1.size⟩
  have HO : Hid (Calls _ _ _ w1 _) := sopen_new (s := 298) p1 (by decide) (fun j hj => k1.cellv (HT.out j hj) id) (by have h1 := HTl.out; exact ⟨by omega, by omega⟩)
  clear hb hd hm p1 k1 HNw
  go_wp2_with fail
  refine HO.out.mono ?_
  rintro e9 w2 ⟨sh, mp, g, gf, dur, rfl, k2, hz, s2⟩
  have HLf : Hid (Calls _ _ _ w2 _) := slife_ok s2
  have HF : Hid (Kp (fun _ => False) w w2 ∧ (w.heap.size ≤ sh ∧ w.heap.size ≤ mp ∧ w.heap.size ≤ g ∧ w.heap.size ≤ gf ∧ w.heap.size ≤ bp ∧ w.heap.size ≤ d ∧ w.heap.size ≤ m) ∧ Shf w2 (fun x => w2.heap.size ≤ x) sh mp g bp d m gf 298 1 1 0 1 0 dur []) := by
    have := HG.out
    exact ⟨HK1.out.trans k2 (fun b hb9 e => by omega), ⟨by omega, by omega, by omega, by omega, by omega, by omega, by omega⟩, s2⟩
  clear k2 hz s2 HO
  go_wp2_with fail
  refine HLf.out.mono ?_
  rintro e9 w9 ⟨rfl, hw9⟩
  have hw8 := hw9.symm
  subst hw8
  clear hw9 HLf
  go_wp2
  go_ret2
  obtain ⟨f1, f2, f3⟩ := HF.out
  exact ⟨sh, mp, g, gf, bp, d, m, dur, rfl, f1, f2, f3⟩
end Go.Proofs.YtmooddbhcccicaaGreatDoor
