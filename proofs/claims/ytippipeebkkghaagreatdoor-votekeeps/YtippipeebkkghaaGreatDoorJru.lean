/- A shelf whose log may be written anew: Note. -/
import Derived.Test.YtippipeebkkghaaGreatDoorJrt
namespace Go.Proofs.YtippipeebkkghaaGreatDoor
set_option linter.unusedVariables false
set_option linter.unusedSimpArgs false
open Go.RowKit Go.Deep Go.Maps

theorem rz1n (w : World) (x : Int) (t : TypeId) : Rz (w.alloc (.cells #[.int .i64 x] t)) (some ⟨w.heap.size, 0, none⟩) [x] := fun j hj => by
  have hl := Lv.new w #[.int .i64 x] t
  refine ⟨w.heap.size, 0, rfl, ?_⟩
  rw [Nat.zero_add]
  match j, hj with
  | 0, _ => exact hl.cell (j := 0) rfl

theorem upTo1 {x : Nat} (hx : x ≤ 1152921504606846976) : upTo 1152921504606846976 [(x : Int)] = true := by
  unfold upTo
  simp
  omega

section
variable {w : World} {Z : Nat → Prop} {sh mp g bp d m gf s b N : Nat} {h : List Rc}

set_option maxRecDepth 100000 in
set_option maxHeartbeats 3200000 in
theorem rnote_ok (x : Shr w Z sh mp g bp d m gf s b N h) (bl : Nat) (hbl : bl ≤ 1152921504606846976) (p : Option Addr) (n cp : Nat) (xs : List Nat) (hr : Rb w p n xs) (hxn : n = xs.length) (hx1 : n ≤ 1980) (hxb : ∀ v ∈ xs, v < 256)
    (hN : N + 1 ≤ 1000) (hroom : 2 * (secS ⟨4, bl, 0, 0, xs⟩ : Int) + 2 * (stS h).2 ≤ (s : Int)) :
    Calls Tryz.prog 23 #[.pointer (some ⟨sh, 0, none⟩), .int .i64 (bl : Int), .slice p n cp] w fun e9 w' =>
      ((∃ o, (stS h).1 ⟨4, (bl : Int), 0⟩ = some o ∧ o.b = xs) ∧ e9 = .returned (.int .i64 0) ∧ Kp (fun _ => False) w w') ∨
      ((∀ o, (stS h).1 ⟨4, (bl : Int), 0⟩ = some o → o.b ≠ xs) ∧ e9 = .returned (.int .i64 0) ∧ Kp (SW6 sh mp g m gf d) w w' ∧ Wrd w' w.heap.size sh mp g bp d m gf s b N h ⟨4, bl, 0, 0, xs⟩ Z) := by
  obtain ⟨r0, hr0⟩ : ∃ r0, r0 = w.heap.size := ⟨_, rfl⟩
  obtain ⟨w0, hw0⟩ : ∃ y, y = w.alloc (.cells #[.int .i64 (bl : Int)] 3) := ⟨_, rfl⟩
  have HK0 : Hid (Kp (fun _ => False) w w0) := by rw [hw0]; exact (Kp.refl _ _).alloc _
  have HS0 : Hid (Shr w0 Z sh mp g bp d m gf s b N h) := x.keep0 HK0.out
  have HA : Hid (Calls Tryz.prog 48 #[.pointer (some ⟨sh, 0, none⟩), .slice (some ⟨r0, 0, none⟩) 1 1] w0 fun e w' => e = .returned (.int .i64 0) ∧ w' = w0) := by
    have h1 := asked_ok (HS0.out.sk.l.cell (j := 0) rfl) (some ⟨r0, 0, none⟩) 1 1 [(bl : Int)] (by rw [hw0, hr0]; exact rz1n w _ _) rfl (by omega)
    rw [upTo1 hbl] at h1
    exact h1
  have hwf : wf3 ⟨4, (bl : Int), 0⟩ := ⟨wf_n60 (n := 4) (by omega), wf_n60 hbl, wf_n60 (n := 0) (by omega)⟩
  obtain ⟨a1, a2, a3, a4, qq, nn, cc, ok, hlk, hM⟩ := HS0.out.sk.look _ hwf
  have hlk0 : (Instr.lookup 93 (.map (some mp)) (.agg #[.int .i64 4, .int .i64 (bl : Int), .int .i64 0]) true).run Tryz.prog w0 = .ok (.tuple #[.agg #[.int .i64 a1, .int .i64 a2, .int .i64 a3, .int .i64 a4, .slice qq nn cc], .bool ok]) w0 := hlk w0 (Kp.refl _ _)
  have HM : Hid ((ok = false ∧ (stS h).1 ⟨4, (bl : Int), 0⟩ = none) ∨ (ok = true ∧ ∃ o, (stS h).1 ⟨4, (bl : Int), 0⟩ = some o ∧ nn = o.b.length ∧ Rb w0 qq o.b.length o.b ∧ GoodR o)) := by
    rcases hM with hM | ⟨h1, o, h2, _, _, _, _, h3, h4, h5, _⟩
    · exact Or.inl hM
    · exact Or.inr ⟨h1, o, h2, h3, h4, h5⟩
  have c1 : w0.cell? ⟨sh, 1, none⟩ = some (.map (some mp)) := HS0.out.sk.l.cell (j := 1) rfl
  have HLk : Hid (∀ z, Kp (fun _ => False) w0 z → (Instr.lookup 93 (.map (some mp)) (.agg #[.int .i64 4, .int .i64 (bl : Int), .int .i64 0]) true).run Tryz.prog z = .ok (.tuple #[.agg #[.int .i64 a1, .int .i64 a2, .int .i64 a3, .int .i64 a4, .slice qq nn cc], .bool ok]) z) := hlk
  have HB0 : Hid (Rb w0 p n xs) := hr.keep0 HK0.out
  have HX : Hid (n = xs.length ∧ n ≤ 1980) := ⟨hxn, hx1⟩
  have HSB : Hid (∀ v, SW6 sh mp g m gf d v → v < w0.heap.size) := HS0.out.blk
  have HWr : Hid (∀ (u u2 : World) (v : Value), Kp (fun _ => False) w0 u → Kp (fun _ => False) u u2 → Ow u2 u.heap.size v xs → Calls Tryz.prog 50 #[.pointer (some ⟨sh, 0, none⟩), .agg #[.int .i64 4, .int .i64 (bl : Int), .int .i64 0, .int .i64 0, v]] u2 fun e9 w' => e9 = .returned (.int .i64 0) ∧ Kp (SW6 sh mp g m gf d) u2 w' ∧ Wrd w' w.heap.size sh mp g bp d m gf s b N h ⟨4, bl, 0, 0, xs⟩ Z) := fun u u2 v k1 k2 ov => by
    obtain ⟨q9, c9, rfl, hc9, hr9, hb9⟩ := ov.rb hxb
    have hbl9 : xs.length ≤ 1980 := by omega
    exact (((HS0.out.keep0 k1).keep0 k2).write ⟨4, bl, 0, 0, xs⟩ q9 c9 hr9 ⟨⟨show 1 ≤ 4 by omega, show 4 ≤ 4 by omega⟩, hbl, show 0 ≤ 1152921504606846976 by omega, show 0 ≤ 1152921504606846976 by omega, hxb, hbl9, fun e => by rcases e with e | e <;> cases e⟩ hN (fun z hz => ⟨(ownBlock_lt ov (hb9 z hz).2).2, fun e => by
      have := (hb9 z hz).1
      have h2 := k1.size
      have h3 := HSB.out _ e
      omega⟩) hroom w.heap.size ⟨Nat.le_trans HK0.out.size (Nat.le_trans k1.size k2.size), fun v hv => Nat.le_trans (Nat.le_trans HK0.out.size k1.size) (hb9 v hv).1⟩).mono (fun e9 w' hh => hh)
  have HXb : Hid (∀ v ∈ xs, v < 256) := hxb
  have hn2 : ¬ ((1980 : Int) < (n : Int)) := by omega
  clear x hbl hwf hlk hlk0 hM HS0 hr hxn hx1 hxb hN hroom
  go_enter Tryz.func23, Tryz.ntmps23
  go_wp2_with fail
  rw [← hw0, ← hr0]
  clear hw0 hr0
  refine HA.out.mono ?_
  rintro e9 w9 ⟨rfl, hw9⟩
  have hw8 := hw9.symm
  subst hw8
  clear hw9 HA
  · skip
    obtain ⟨tb, htb⟩ : ∃ tb, tb = w0.heap.size := ⟨_, rfl⟩
    obtain ⟨w1, hw1⟩ : ∃ y, y = w0.alloc (.cells #[.int .i64 4, .int .i64 (bl : Int), .int .i64 0] 120) := ⟨_, rfl⟩
    have HK1 : Hid (Kp (fun _ => False) w0 w1) := by rw [hw1]; exact (Kp.refl _ _).alloc _
    have HT1 : Hid (Lv w1 tb [.int .i64 4, .int .i64 (bl : Int), .int .i64 0]) := by rw [hw1, htb]; exact Lv.new _ _ _
    have HTb : Hid (tb = w0.heap.size) := htb
    go_upto_region 7 with fail
    rw [← hw1, ← htb]
    clear hw1 htb
    have HSl : Hid (∀ z, Kp (fun _ => False) w1 z → Kp (fun _ => False) w1 z ∧ z.cell? ⟨sh, 1, none⟩ = some (.map (some mp)) ∧ z.cell? ⟨tb, 0, none⟩ = some (.int .i64 4) ∧ z.cell? ⟨tb, 1, none⟩ = some (.int .i64 (bl : Int)) ∧ z.cell? ⟨tb, 2, none⟩ = some (.int .i64 0) ∧ (Instr.lookup 93 (.map (some mp)) (.agg #[.int .i64 4, .int .i64 (bl : Int), .int .i64 0]) true).run Tryz.prog z = .ok (.tuple #[.agg #[.int .i64 a1, .int .i64 a2, .int .i64 a3, .int .i64 a4, .slice qq nn cc], .bool ok]) z) := fun z k => ⟨k, (HK1.out.trans k (fun _ _ e => e)).cellv c1 id, k.cellv (HT1.out.cell (j := 0) rfl) id, k.cellv (HT1.out.cell (j := 1) rfl) id, k.cellv (HT1.out.cell (j := 2) rfl) id, HLk.out z (HK1.out.trans k (fun _ _ e => e))⟩
    go_cut [9, 10] (fun v6 v7 wz => ∃ q, v6 = .pointer (some ⟨q, 0, none⟩) ∧ v7 = .bool ok ∧ Hid (Kp (fun _ => False) w1 wz) ∧ Hid (Lv wz q [.int .i64 a1, .int .i64 a2, .int .i64 a3, .int .i64 a4, .slice qq nn cc]))
    case first =>
      clear HM HWr c1
      have kd : Kp (fun _ => False) w1 w1.drew := (Kp.refl _ _).drew
      have kda : ∀ o : Obj, Kp (fun _ => False) w1 (w1.drew.alloc o) := fun o => (Kp.refl _ _).drew.alloc o
      go_region_held3 (fun z => Kp (fun _ => False) w1 z ∧ z.cell? ⟨sh, 1, none⟩ = some (.map (some mp)) ∧ z.cell? ⟨tb, 0, none⟩ = some (.int .i64 4) ∧ z.cell? ⟨tb, 1, none⟩ = some (.int .i64 (bl : Int)) ∧ z.cell? ⟨tb, 2, none⟩ = some (.int .i64 0) ∧ (Instr.lookup 93 (.map (some mp)) (.agg #[.int .i64 4, .int .i64 (bl : Int), .int .i64 0]) true).run Tryz.prog z = .ok (.tuple #[.agg #[.int .i64 a1, .int .i64 a2, .int .i64 a3, .int .i64 a4, .slice qq nn cc], .bool ok]) z)
        (first
          | exact HSl.out _ kd
          | exact HSl.out _ (kda _))
        (fail)
      all_goals
        go_simp
        go_wp2_with fail
        go_meet
        first
          | exact ⟨_, rfl, rfl, kda _, Lv.new _ _ _⟩
          | exact ⟨_, rfl, rfl, ((Kp.refl _ _).alloc _).drew, (Lv.new _ _ _).keep (S := fun _ => False) ((Kp.refl _ _).drew) id⟩
          | trace_state
    case rest =>
      obtain ⟨q, rfl, rfl, HKc, HLc⟩ := hcut
      have HKc0 : Hid (Kp (fun _ => False) w0 wc) := HK1.out.trans HKc.out (fun _ _ e => e)
      have HTc : Hid (Lv wc tb [.int .i64 4, .int .i64 (bl : Int), .int .i64 0]) := HT1.out.keep HKc.out id
      clear HSl c1 HLk
      rcases HM.out with ⟨rfl, hno⟩ | ⟨rfl, o, ho, rfl, hrb, hgo⟩
      · have HN : Hid (∀ o, (stS h).1 ⟨4, (bl : Int), 0⟩ = some o → o.b ≠ xs) := fun o ho => by rw [hno] at ho; cases ho
        clear hno HM
        have HCl : Hid (∀ u, Kp (fun _ => False) wc u → Calls Tryz.prog 51 #[.slice p n cp] u fun e w' => ∃ v, e = .returned v ∧ Kp (fun _ => False) u w' ∧ Ow w' u.heap.size v xs) := fun u ku => clone_any p n cp xs u (HB0.out.keep0 (HKc0.out.trans ku (fun _ _ e => e))) (by have := HX.out; show _ ≤ _; omega)
        have HBk : Hid (¬ SW6 sh mp g m gf d tb) := by
          have h2 := HTb.out
          show ¬ _
          intro e
          have h1 := HSB.out _ e
          omega
        have HS1 : Hid (∀ z, Kp (SW6 sh mp g m gf d) wc z → Kp (SW6 sh mp g m gf d) wc z ∧ z.cell? ⟨tb, 0, none⟩ = some (.int .i64 4) ∧ z.cell? ⟨tb, 1, none⟩ = some (.int .i64 (bl : Int)) ∧ z.cell? ⟨tb, 2, none⟩ = some (.int .i64 0)) := fun z k => ⟨k, k.cellv (HTc.out.cell (j := 0) rfl) HBk.out, k.cellv (HTc.out.cell (j := 1) rfl) HBk.out, k.cellv (HTc.out.cell (j := 2) rfl) HBk.out⟩
        have HS0 : Hid (∀ z, Kp (fun _ => False) wc z → Kp (SW6 sh mp g m gf d) wc z ∧ z.cell? ⟨tb, 0, none⟩ = some (.int .i64 4) ∧ z.cell? ⟨tb, 1, none⟩ = some (.int .i64 (bl : Int)) ∧ z.cell? ⟨tb, 2, none⟩ = some (.int .i64 0)) := fun z k => HS1.out z (k.mono (fun _ _ e => e.elim))
        have HSt : Hid (∀ z z2, Kp (fun _ => False) wc z → Kp (SW6 sh mp g m gf d) z z2 → Kp (SW6 sh mp g m gf d) wc z2 ∧ z2.cell? ⟨tb, 0, none⟩ = some (.int .i64 4) ∧ z2.cell? ⟨tb, 1, none⟩ = some (.int .i64 (bl : Int)) ∧ z2.cell? ⟨tb, 2, none⟩ = some (.int .i64 0)) := fun z z2 k k2 => HS1.out z2 ((k.mono (fun _ _ e => e.elim)).trans k2 (fun _ _ e => e))
        have HWc : Hid (∀ (u u2 : World) (v : Value), Kp (fun _ => False) wc u → Kp (fun _ => False) u u2 → Ow u2 u.heap.size v xs → Calls Tryz.prog 50 #[.pointer (some ⟨sh, 0, none⟩), .agg #[.int .i64 4, .int .i64 (bl : Int), .int .i64 0, .int .i64 0, v]] u2 fun e9 w' => e9 = .returned (.int .i64 0) ∧ Kp (SW6 sh mp g m gf d) u2 w' ∧ Wrd w' w.heap.size sh mp g bp d m gf s b N h ⟨4, bl, 0, 0, xs⟩ Z) := fun u u2 v k1 k2 ov => HWr.out u u2 v (HKc0.out.trans k1 (fun _ _ e => e)) k2 ov
        have kd : Kp (fun _ => False) wc wc.drew := (Kp.refl _ _).drew
        have HTr : Hid (∀ u u' : World, Kp (fun _ => False) wc u → Kp (fun _ => False) u u' → Kp (fun _ => False) wc u') := fun u u' h1 h2 => h1.trans h2 (fun _ _ e => e)
        clear HWr HS1
        go_upto_region 10 with fail
        go_region_held3 (fun z => Kp (SW6 sh mp g m gf d) wc z ∧ z.cell? ⟨tb, 0, none⟩ = some (.int .i64 4) ∧ z.cell? ⟨tb, 1, none⟩ = some (.int .i64 (bl : Int)) ∧ z.cell? ⟨tb, 2, none⟩ = some (.int .i64 0))
          (first
            | exact HS0.out _ kd
            | exact HS0.out _ kw1
            | exact HSt.out _ _ kw1 k8)
          (first
            | (go_at_call 51; refine (HCl.out _ kd).mono ?_; rintro e9 w7 ⟨v7, rfl, k7, o7⟩; obtain ⟨q7, c7, hv7, hc7, hr7, hb7⟩ := o7.rb HXb.out; subst hv7; clear hc7 hr7 hb7; have kw1 := HTr.out _ _ kd k7)
            | (go_at_call 50; refine (HWc.out _ _ _ kd k7 o7).mono ?_; rintro e9 w8 ⟨rfl, k8, s8⟩))
        all_goals
          have HF : Hid (Kp (SW6 sh mp g m gf d) w w8 ∧ Wrd w8 w.heap.size sh mp g bp d m gf s b N h ⟨4, bl, 0, 0, xs⟩ Z) := ⟨(((HK0.out.trans HKc0.out (fun _ _ e => e)).trans kw1 (fun _ _ e => e)).mono (fun _ _ e => e.elim)).trans k8 (fun _ _ e => e), s8⟩
          clear HS0 HSt HWc HCl HTr kd kw1 k7 o7 k8 s8
          go_simp
          go_wp2_with fail
          go_ret
          exact Or.inr ⟨HN.out, rfl, HF.out⟩
      · have HO : Hid ((stS h).1 ⟨4, (bl : Int), 0⟩ = some o) := ho
        have HEq : Hid (Calls Tryz.prog 49 #[.slice qq o.b.length cc, .slice p n cp] wc fun e w' => e = .returned (.bool (decide (o.b = xs))) ∧ w' = wc) := equal_any cc cp wc (hrb.keep0 HKc0.out) (HB0.out.keep0 HKc0.out)
        have v4 : wc.cell? ⟨q, 4, none⟩ = some (.slice qq o.b.length cc) := HLc.out.cell (j := 4) rfl
        clear ho hrb hgo HM
        by_cases hEq : o.b = xs
        · have HE : Hid (o.b = xs) := hEq
          have hdE : decide (o.b = xs) = true := decide_eq_true hEq
          rw [hdE] at HEq
          clear hEq hdE HWr
          go_wp2_with fail
          refine HEq.out.mono ?_
          rintro e9 w9 ⟨rfl, hw9⟩
          have hw8 := hw9.symm
          subst hw8
          clear hw9 HEq
          go_wp2_with fail
          go_ret
          exact Or.inl ⟨⟨o, HO.out, HE.out⟩, rfl, HK0.out.trans HKc0.out (fun _ _ e => e)⟩
        · have HN : Hid (∀ o, (stS h).1 ⟨4, (bl : Int), 0⟩ = some o → o.b ≠ xs) := fun o' ho => by
            rw [HO.out] at ho
            cases ho
            exact hEq
          have hdE : decide (o.b = xs) = false := decide_eq_false hEq
          rw [hdE] at HEq
          clear hEq hdE
          go_wp2_with fail
          refine HEq.out.mono ?_
          rintro e9 w9 ⟨rfl, hw9⟩
          have hw8 := hw9.symm
          subst hw8
          clear hw9 HEq v4
          have HCl : Hid (∀ u, Kp (fun _ => False) wc u → Calls Tryz.prog 51 #[.slice p n cp] u fun e w' => ∃ v, e = .returned v ∧ Kp (fun _ => False) u w' ∧ Ow w' u.heap.size v xs) := fun u ku => clone_any p n cp xs u (HB0.out.keep0 (HKc0.out.trans ku (fun _ _ e => e))) (by have := HX.out; show _ ≤ _; omega)
          have HBk : Hid (¬ SW6 sh mp g m gf d tb) := by
            have h2 := HTb.out
            show ¬ _
            intro e
            have h1 := HSB.out _ e
            omega
          have HS1 : Hid (∀ z, Kp (SW6 sh mp g m gf d) wc z → Kp (SW6 sh mp g m gf d) wc z ∧ z.cell? ⟨tb, 0, none⟩ = some (.int .i64 4) ∧ z.cell? ⟨tb, 1, none⟩ = some (.int .i64 (bl : Int)) ∧ z.cell? ⟨tb, 2, none⟩ = some (.int .i64 0)) := fun z k => ⟨k, k.cellv (HTc.out.cell (j := 0) rfl) HBk.out, k.cellv (HTc.out.cell (j := 1) rfl) HBk.out, k.cellv (HTc.out.cell (j := 2) rfl) HBk.out⟩
          have HS0 : Hid (∀ z, Kp (fun _ => False) wc z → Kp (SW6 sh mp g m gf d) wc z ∧ z.cell? ⟨tb, 0, none⟩ = some (.int .i64 4) ∧ z.cell? ⟨tb, 1, none⟩ = some (.int .i64 (bl : Int)) ∧ z.cell? ⟨tb, 2, none⟩ = some (.int .i64 0)) := fun z k => HS1.out z (k.mono (fun _ _ e => e.elim))
          have HSt : Hid (∀ z z2, Kp (fun _ => False) wc z → Kp (SW6 sh mp g m gf d) z z2 → Kp (SW6 sh mp g m gf d) wc z2 ∧ z2.cell? ⟨tb, 0, none⟩ = some (.int .i64 4) ∧ z2.cell? ⟨tb, 1, none⟩ = some (.int .i64 (bl : Int)) ∧ z2.cell? ⟨tb, 2, none⟩ = some (.int .i64 0)) := fun z z2 k k2 => HS1.out z2 ((k.mono (fun _ _ e => e.elim)).trans k2 (fun _ _ e => e))
          have HWc : Hid (∀ (u u2 : World) (v : Value), Kp (fun _ => False) wc u → Kp (fun _ => False) u u2 → Ow u2 u.heap.size v xs → Calls Tryz.prog 50 #[.pointer (some ⟨sh, 0, none⟩), .agg #[.int .i64 4, .int .i64 (bl : Int), .int .i64 0, .int .i64 0, v]] u2 fun e9 w' => e9 = .returned (.int .i64 0) ∧ Kp (SW6 sh mp g m gf d) u2 w' ∧ Wrd w' w.heap.size sh mp g bp d m gf s b N h ⟨4, bl, 0, 0, xs⟩ Z) := fun u u2 v k1 k2 ov => HWr.out u u2 v (HKc0.out.trans k1 (fun _ _ e => e)) k2 ov
          have kd : Kp (fun _ => False) wc wc.drew := (Kp.refl _ _).drew
          have HTr : Hid (∀ u u' : World, Kp (fun _ => False) wc u → Kp (fun _ => False) u u' → Kp (fun _ => False) wc u') := fun u u' h1 h2 => h1.trans h2 (fun _ _ e => e)
          clear HWr HS1
          go_upto_region 10 with fail
          go_region_held3 (fun z => Kp (SW6 sh mp g m gf d) wc z ∧ z.cell? ⟨tb, 0, none⟩ = some (.int .i64 4) ∧ z.cell? ⟨tb, 1, none⟩ = some (.int .i64 (bl : Int)) ∧ z.cell? ⟨tb, 2, none⟩ = some (.int .i64 0))
            (first
              | exact HS0.out _ kd
              | exact HS0.out _ kw1
              | exact HSt.out _ _ kw1 k8)
            (first
              | (go_at_call 51; refine (HCl.out _ kd).mono ?_; rintro e9 w7 ⟨v7, rfl, k7, o7⟩; obtain ⟨q7, c7, hv7, hc7, hr7, hb7⟩ := o7.rb HXb.out; subst hv7; clear hc7 hr7 hb7; have kw1 := HTr.out _ _ kd k7)
              | (go_at_call 50; refine (HWc.out _ _ _ kd k7 o7).mono ?_; rintro e9 w8 ⟨rfl, k8, s8⟩))
          all_goals
            have HF : Hid (Kp (SW6 sh mp g m gf d) w w8 ∧ Wrd w8 w.heap.size sh mp g bp d m gf s b N h ⟨4, bl, 0, 0, xs⟩ Z) := ⟨(((HK0.out.trans HKc0.out (fun _ _ e => e)).trans kw1 (fun _ _ e => e)).mono (fun _ _ e => e.elim)).trans k8 (fun _ _ e => e), s8⟩
            clear HS0 HSt HWc HCl HTr kd kw1 k7 o7 k8 s8
            go_simp
            go_wp2_with fail
            go_ret
            exact Or.inr ⟨HN.out, rfl, HF.out⟩

end
end Go.Proofs.YtippipeebkkghaaGreatDoor
