/- Texts of this proof, joined: Jru, Jrv, Wo. -/
import Derived.Test.YtmooddbhcccicaaGreatDoorMgBI
import Derived.Test.YtmooddbhcccicaaGreatDoorMgAH
/- A shelf whose log may be written anew: Note. -/
namespace Go.Proofs.YtmooddbhcccicaaGreatDoor
set_option linter.unusedVariables false
set_option linter.unusedSimpArgs false
open Go.RowKit Go.Deep Go.Maps

theorem rz1n (w : World) (x : Int) (t : TypeId) : Rz (w.alloc (.cells #[.int .i64 x] t)) (some ⟨w.heap.size, 0, none⟩) [x] := fun j hj => by
  have hl := Lv.new w #[.int .i64 x] t
  refine ⟨w.heap.size, 0, rfl, ?_⟩
  rw [Nat.zero_add]
  match j, hj with
  | 0, _ => exact hl.cell (j := 0) rfl
theorem upTo1 {x : Nat} (hx : x ≤ 1152921504606846976) : upTo 1152921504606846976 [(x : Int)] = true := by
  unfold upTo
  simp
  omega
section
variable {w : World} {Z : Nat → Prop} {sh mp g bp d m gf s b N : Nat} {h : List Rc}
set_option maxRecDepth 100000 in
set_option maxHeartbeats 3200000 in
theorem rnote_ok (x : Shr w Z sh mp g bp d m gf s b N h) (bl : Nat) (hbl : bl ≤ 1152921504606846976) (p : Option Addr) (n cp : Nat) (xs : List Nat) (hr : Rb w p n xs) (hxn : n = xs.length) (hx1 : n ≤ 1980) (hxb : ∀ v ∈ xs, v < 256)
    (hN : N + 1 ≤ 1000) (hroom : 2 * (secS ⟨4, bl, 0, 0, xs⟩ : Int) + 2 * (stS h).2 ≤ (s : Int)) :
    Calls Tryz.prog 29 #[.pointer (some ⟨sh, 0, none⟩), .int .i64 (bl : Int), .slice p n cp] w fun e9 w' =>
      ((∃ o, (stS h).1 ⟨4, (bl : Int), 0⟩ = some o ∧ o.b = xs) ∧ e9 = .returned (.int .i64 0) ∧ Kp (fun _ => False) w w') ∨
      ((∀ o, (stS h).1 ⟨4, (bl : Int), 0⟩ = some o → o.b ≠ xs) ∧ e9 = .returned (.int .i64 0) ∧ Kp (SW6 sh mp g m gf d) w w' ∧ Wrd w' w.heap.size sh mp g bp d m gf s b N h ⟨4, bl, 0, 0, xs⟩) := by
  obtain ⟨r0, hr0⟩ : ∃ r0, r0 = w.heap.size := ⟨_, rfl⟩
  obtain ⟨w0, hw0⟩ : ∃ y, y = w.alloc (.cells #[.int .i64 (bl : Int)] 3) := ⟨_, rfl⟩
  have HK0 : Hid (Kp (fun _ => False) w w0) := by rw [hw0]; exact (Kp.refl _ _).alloc _
  have HS0 : Hid (Shr w0 Z sh mp g bp d m gf s b N h) := x.keep0 HK0.out
  have HA : Hid (Calls Tryz.prog 44 #[.pointer (some ⟨sh, 0, none⟩), .slice (some ⟨r0, 0, none⟩) 1 1] w0 fun e w' => e = .returned (.int .i64 0) ∧ w' = w0) := by
    have h1 := asked_ok (HS0.out.sk.l.cell (j := 0) rfl) (some ⟨r0, 0, none⟩) 1 1 [(bl : Int)] (by rw [hw0, hr0]; exact rz1n w _ _) rfl (by omega)
    rw [upTo1 hbl] at h1
    exact h1
  have hwf : wf3 ⟨4, (bl : Int), 0⟩ := ⟨wf_n60 (n := 4) (by omega), wf_n60 hbl, wf_n60 (n := 0) (by omega)⟩
  obtain ⟨a1, a2, a3, a4, qq, nn, cc, ok, hlk, hM⟩ := HS0.out.sk.look _ hwf
  have hlk0 : (Instr.lookup 88 (.map (some mp)) (.agg #[.int .i64 4, .int .i64 (bl : Int), .int .i64 0]) true).run Tryz.prog w0 = .ok (.tuple #[.agg #[.int .i64 a1, .int .i64 a2, .int .i64 a3, .int .i64 a4, .slice qq nn cc], .bool ok]) w0 := hlk w0 (Kp.refl _ _)
  have HM : Hid ((ok = false ∧ (stS h).1 ⟨4, (bl : Int), 0⟩ = none) ∨ (ok = true ∧ ∃ o, (stS h).1 ⟨4, (bl : Int), 0⟩ = some o ∧ nn = o.b.length ∧ Rb w0 qq o.b.length o.b ∧ GoodR o)) := by
    rcases hM with hM | ⟨h1, o, h2, _, _, _, _, h3, h4, h5, _⟩
    · exact Or.inl hM
    · exact Or.inr ⟨h1, o, h2, h3, h4, h5⟩
  have c1 : w0.cell? ⟨sh, 1, none⟩ = some (.map (some mp)) := HS0.out.sk.l.cell (j := 1) rfl
  have HLk : Hid (∀ z, Kp (fun _ => False) w0 z → (Instr.lookup 88 (.map (some mp)) (.agg #[.int .i64 4, .int .i64 (bl : Int), .int .i64 0]) true).run Tryz.prog z = .ok (.tuple #[.agg #[.int .i64 a1, .int .i64 a2, .int .i64 a3, .int .i64 a4, .slice qq nn cc], .bool ok]) z) := hlk
  have HB0 : Hid (Rb w0 p n xs) := hr.keep0 HK0.out
  have HX : Hid (n = xs.length ∧ n ≤ 1980) := ⟨hxn, hx1⟩
  have HSB : Hid (∀ v, SW6 sh mp g m gf d v → v < w0.heap.size) := HS0.out.blk
  have HWr : Hid (∀ (u u2 : World) (v : Value), Kp (fun _ => False) w0 u → Kp (fun _ => False) u u2 → Ow u2 u.heap.size v xs → Calls Tryz.prog 45 #[.pointer (some ⟨sh, 0, none⟩), .agg #[.int .i64 4, .int .i64 (bl : Int), .int .i64 0, .int .i64 0, v]] u2 fun e9 w' => e9 = .returned (.int .i64 0) ∧ Kp (SW6 sh mp g m gf d) u2 w' ∧ Wrd w' w.heap.size sh mp g bp d m gf s b N h ⟨4, bl, 0, 0, xs⟩) := fun u u2 v k1 k2 ov => by
    obtain ⟨q9, c9, rfl, hc9, hr9, hb9⟩ := ov.rb hxb
    have hbl9 : xs.length ≤ 1980 := by omega
    exact (((HS0.out.keep0 k1).keep0 k2).write ⟨4, bl, 0, 0, xs⟩ q9 c9 hr9 ⟨⟨show 1 ≤ 4 by omega, show 4 ≤ 4 by omega⟩, hbl, show 0 ≤ 1152921504606846976 by omega, show 0 ≤ 1152921504606846976 by omega, hxb, hbl9, fun e => by rcases e with e | e <;> cases e⟩ hN (fun z hz => ⟨(ownBlock_lt ov (hb9 z hz).2).2, fun e => by
      have := (hb9 z hz).1
      have h2 := k1.size
      have h3 := HSB.out _ e
      omega⟩) hroom).mono (fun e9 w' hh => ⟨hh.1, hh.2.1, hh.2.2.mono (Nat.le_trans HK0.out.size (Nat.le_trans k1.size k2.size))⟩)
  have HXb : Hid (∀ v ∈ xs, v < 256) := hxb
  have hn2 : ¬ ((1980 : Int) < (n : Int)) := by omega
  clear x hbl hwf hlk hlk0 hM HS0 hr hxn hx1 hxb hN hroom
  go_enter Tryz.func29, Tryz.ntmps29
  go_wp2_with fail
  rw [← hw0, ← hr0]
  clear hw0 hr0
  refine HA.out.mono ?_
  rintro e9 w9 ⟨rfl, hw9⟩
  have hw8 := hw9.symm
  subst hw8
  clear hw9 HA
  · skip
    obtain ⟨tb, htb⟩ : ∃ tb, tb = w0.heap.size := ⟨_, rfl⟩
    obtain ⟨w1, hw1⟩ : ∃ y, y = w0.alloc (.cells #[.int .i64 4, .int .i64 (bl : Int), .int .i64 0] 83) := ⟨_, rfl⟩
    have HK1 : Hid (Kp (fun _ => False) w0 w1) := by rw [hw1]; exact (Kp.refl _ _).alloc _
    have HT1 : Hid (Lv w1 tb [.int .i64 4, .int .i64 (bl : Int), .int .i64 0]) := by rw [hw1, htb]; exact Lv.new _ _ _
    have HTb : Hid (tb = w0.heap.size) := htb
    go_upto_region 7 with fail
    rw [← hw1, ← htb]
    clear hw1 htb
    have HSl : Hid (∀ z, Kp (fun _ => False) w1 z → Kp (fun _ => False) w1 z ∧ z.cell? ⟨sh, 1, none⟩ = some (.map (some mp)) ∧ z.cell? ⟨tb, 0, none⟩ = some (.int .i64 4) ∧ z.cell? ⟨tb, 1, none⟩ = some (.int .i64 (bl : Int)) ∧ z.cell? ⟨tb, 2, none⟩ = some (.int .i64 0) ∧ (Instr.lookup 88 (.map (some mp)) (.agg #[.int .i64 4, .int .i64 (bl : Int), .int .i64 0]) true).run Tryz.prog z = .ok (.tuple #[.agg #[.int .i64 a1, .int .i64 a2, .int .i64 a3, .int .i64 a4, .slice qq nn cc], .bool ok]) z) := fun z k => ⟨k, (HK1.out.trans k (fun _ _ e => e)).cellv c1 id, k.cellv (HT1.out.cell (j := 0) rfl) id, k.cellv (HT1.out.cell (j := 1) rfl) id, k.cellv (HT1.out.cell (j := 2) rfl) id, HLk.out z (HK1.out.trans k (fun _ _ e => e))⟩
    go_cut [9, 10] (fun v6 v7 wz => ∃ q, v6 = .pointer (some ⟨q, 0, none⟩) ∧ v7 = .bool ok ∧ Hid (Kp (fun _ => False) w1 wz) ∧ Hid (Lv wz q [.int .i64 a1, .int .i64 a2, .int .i64 a3, .int .i64 a4, .slice qq nn cc]))
    case first =>
      clear HM HWr c1
      have kd : Kp (fun _ => False) w1 w1.drew := (Kp.refl _ _).drew
      have kda : ∀ o : Obj, Kp (fun _ => False) w1 (w1.drew.alloc o) := fun o => (Kp.refl _ _).drew.alloc o
      go_region_held3 (fun z => Kp (fun _ => False) w1 z ∧ z.cell? ⟨sh, 1, none⟩ = some (.map (some mp)) ∧ z.cell? ⟨tb, 0, none⟩ = some (.int .i64 4) ∧ z.cell? ⟨tb, 1, none⟩ = some (.int .i64 (bl : Int)) ∧ z.cell? ⟨tb, 2, none⟩ = some (.int .i64 0) ∧ (Instr.lookup 88 (.map (some mp)) (.agg #[.int .i64 4, .int .i64 (bl : Int), .int .i64 0]) true).run Tryz.prog z = .ok (.tuple #[.agg #[.int .i64 a1, .int .i64 a2, .int .i64 a3, .int .i64 a4, .slice qq nn cc], .bool ok]) z)
        (first
          | exact HSl.out _ kd
          | exact HSl.out _ (kda _))
        (fail)
      all_goals
        go_simp
        go_wp2_with fail
        go_meet
        first
          | exact ⟨_, rfl, rfl, kda _, Lv.new _ _ _⟩
          | exact ⟨_, rfl, rfl, ((Kp.refl _ _).alloc _).drew, (Lv.new _ _ _).keep (S := fun _ => False) ((Kp.refl _ _).drew) id⟩
          | trace_state
    case rest =>
      obtain ⟨q, rfl, rfl, HKc, HLc⟩ := hcut
      have HKc0 : Hid (Kp (fun _ => False) w0 wc) := HK1.out.trans HKc.out (fun _ _ e => e)
      have HTc : Hid (Lv wc tb [.int .i64 4, .int .i64 (bl : Int), .int .i64 0]) := HT1.out.keep HKc.out id
      clear HSl c1 HLk
      rcases HM.out with ⟨rfl, hno⟩ | ⟨rfl, o, ho, rfl, hrb, hgo⟩
      · have HN : Hid (∀ o, (stS h).1 ⟨4, (bl : Int), 0⟩ = some o → o.b ≠ xs) := fun o ho => by rw [hno] at ho; cases ho
        clear hno HM
        have HCl : Hid (∀ u, Kp (fun _ => False) wc u → Calls Tryz.prog 13 #[.slice p n cp] u fun e w' => ∃ v, e = .returned v ∧ Kp (fun _ => False) u w' ∧ Ow w' u.heap.size v xs) := fun u ku => clone_any p n cp xs u (HB0.out.keep0 (HKc0.out.trans ku (fun _ _ e => e))) (by have := HX.out; show _ ≤ _; omega)
        have HBk : Hid (¬ SW6 sh mp g m gf d tb) := by
          have h2 := HTb.out
          show ¬ _
          intro e
          have h1 := HSB.out _ e
          omega
        have HS1 : Hid (∀ z, Kp (SW6 sh mp g m gf d) wc z → Kp (SW6 sh mp g m gf d) wc z ∧ z.cell? ⟨tb, 0, none⟩ = some (.int .i64 4) ∧ z.cell? ⟨tb, 1, none⟩ = some (.int .i64 (bl : Int)) ∧ z.cell? ⟨tb, 2, none⟩ = some (.int .i64 0)) := fun z k => ⟨k, k.cellv (HTc.out.cell (j := 0) rfl) HBk.out, k.cellv (HTc.out.cell (j := 1) rfl) HBk.out, k.cellv (HTc.out.cell (j := 2) rfl) HBk.out⟩
        have HS0 : Hid (∀ z, Kp (fun _ => False) wc z → Kp (SW6 sh mp g m gf d) wc z ∧ z.cell? ⟨tb, 0, none⟩ = some (.int .i64 4) ∧ z.cell? ⟨tb, 1, none⟩ = some (.int .i64 (bl : Int)) ∧ z.cell? ⟨tb, 2, none⟩ = some (.int .i64 0)) := fun z k => HS1.out z (k.mono (fun _ _ e => e.elim))
        have HSt : Hid (∀ z z2, Kp (fun _ => False) wc z → Kp (SW6 sh mp g m gf d) z z2 → Kp (SW6 sh mp g m gf d) wc z2 ∧ z2.cell? ⟨tb, 0, none⟩ = some (.int .i64 4) ∧ z2.cell? ⟨tb, 1, none⟩ = some (.int .i64 (bl : Int)) ∧ z2.cell? ⟨tb, 2, none⟩ = some (.int .i64 0)) := fun z z2 k k2 => HS1.out z2 ((k.mono (fun _ _ e => e.elim)).trans k2 (fun _ _ e => e))
        have HWc : Hid (∀ (u u2 : World) (v : Value), Kp (fun _ => False) wc u → Kp (fun _ => False) u u2 → Ow u2 u.heap.size v xs → Calls Tryz.prog 45 #[.pointer (some ⟨sh, 0, none⟩), .agg #[.int .i64 4, .int .i64 (bl : Int), .int .i64 0, .int .i64 0, v]] u2 fun e9 w' => e9 = .returned (.int .i64 0) ∧ Kp (SW6 sh mp g m gf d) u2 w' ∧ Wrd w' w.heap.size sh mp g bp d m gf s b N h ⟨4, bl, 0, 0, xs⟩) := fun u u2 v k1 k2 ov => HWr.out u u2 v (HKc0.out.trans k1 (fun _ _ e => e)) k2 ov
        have kd : Kp (fun _ => False) wc wc.drew := (Kp.refl _ _).drew
        have HTr : Hid (∀ u u' : World, Kp (fun _ => False) wc u → Kp (fun _ => False) u u' → Kp (fun _ => False) wc u') := fun u u' h1 h2 => h1.trans h2 (fun _ _ e => e)
        clear HWr HS1
        go_upto_region 10 with fail
        go_region_held3 (fun z => Kp (SW6 sh mp g m gf d) wc z ∧ z.cell? ⟨tb, 0, none⟩ = some (.int .i64 4) ∧ z.cell? ⟨tb, 1, none⟩ = some (.int .i64 (bl : Int)) ∧ z.cell? ⟨tb, 2, none⟩ = some (.int .i64 0))
          (first
            | exact HS0.out _ kd
            | exact HS0.out _ kw1
            | exact HSt.out _ _ kw1 k8)
          (first
            | (go_at_call 13; refine (HCl.out _ kd).mono ?_; rintro e9 w7 ⟨v7, rfl, k7, o7⟩; obtain ⟨q7, c7, hv7, hc7, hr7, hb7⟩ := o7.rb HXb.out; subst hv7; clear hc7 hr7 hb7; have kw1 := HTr.out _ _ kd k7)
            | (go_at_call 45; refine (HWc.out _ _ _ kd k7 o7).mono ?_; rintro e9 w8 ⟨rfl, k8, s8⟩))
        all_goals
          have HF : Hid (Kp (SW6 sh mp g m gf d) w w8 ∧ Wrd w8 w.heap.size sh mp g bp d m gf s b N h ⟨4, bl, 0, 0, xs⟩) := ⟨(((HK0.out.trans HKc0.out (fun _ _ e => e)).trans kw1 (fun _ _ e => e)).mono (fun _ _ e => e.elim)).trans k8 (fun _ _ e => e), s8⟩
          clear HS0 HSt HWc HCl HTr kd kw1 k7 o7 k8 s8
          go_simp
          go_wp2_with fail
          go_ret
          exact Or.inr ⟨HN.out, rfl, HF.out⟩
      · have HO : Hid ((stS h).1 ⟨4, (bl : Int), 0⟩ = some o) := ho
        have HEq : Hid (Calls Tryz.prog 20 #[.slice qq o.b.length cc, .slice p n cp] wc fun e w' => e = .returned (.bool (decide (o.b = xs))) ∧ w' = wc) := equal_any cc cp wc (hrb.keep0 HKc0.out) (HB0.out.keep0 HKc0.out)
        have v4 : wc.cell? ⟨q, 4, none⟩ = some (.slice qq o.b.length cc) := HLc.out.cell (j := 4) rfl
        clear ho hrb hgo HM
        by_cases hEq : o.b = xs
        · have HE : Hid (o.b = xs) := hEq
          have hdE : decide (o.b = xs) = true := decide_eq_true hEq
          rw [hdE] at HEq
          clear hEq hdE HWr
          go_wp2_with fail
          refine HEq.out.mono ?_
          rintro e9 w9 ⟨rfl, hw9⟩
          have hw8 := hw9.symm
          subst hw8
          clear hw9 HEq
          go_wp2_with fail
          go_ret
          exact Or.inl ⟨⟨o, HO.out, HE.out⟩, rfl, HK0.out.trans HKc0.out (fun _ _ e => e)⟩
        · have HN : Hid (∀ o, (stS h).1 ⟨4, (bl : Int), 0⟩ = some o → o.b ≠ xs) := fun o' ho => by
            rw [HO.out] at ho
            cases ho
            exact hEq
          have hdE : decide (o.b = xs) = false := decide_eq_false hEq
          rw [hdE] at HEq
          clear hEq hdE
          go_wp2_with fail
          refine HEq.out.mono ?_
          rintro e9 w9 ⟨rfl, hw9⟩
          have hw8 := hw9.symm
          subst hw8
          clear hw9 HEq v4
          have HCl : Hid (∀ u, Kp (fun _ => False) wc u → Calls Tryz.prog 13 #[.slice p n cp] u fun e w' => ∃ v, e = .returned v ∧ Kp (fun _ => False) u w' ∧ Ow w' u.heap.size v xs) := fun u ku => clone_any p n cp xs u (HB0.out.keep0 (HKc0.out.trans ku (fun _ _ e => e))) (by have := HX.out; show _ ≤ _; omega)
          have HBk : Hid (¬ SW6 sh mp g m gf d tb) := by
            have h2 := HTb.out
            show ¬ _
            intro e
            have h1 := HSB.out _ e
            omega
          have HS1 : Hid (∀ z, Kp (SW6 sh mp g m gf d) wc z → Kp (SW6 sh mp g m gf d) wc z ∧ z.cell? ⟨tb, 0, none⟩ = some (.int .i64 4) ∧ z.cell? ⟨tb, 1, none⟩ = some (.int .i64 (bl : Int)) ∧ z.cell? ⟨tb, 2, none⟩ = some (.int .i64 0)) := fun z k => ⟨k, k.cellv (HTc.out.cell (j := 0) rfl) HBk.out, k.cellv (HTc.out.cell (j := 1) rfl) HBk.out, k.cellv (HTc.out.cell (j := 2) rfl) HBk.out⟩
          have HS0 : Hid (∀ z, Kp (fun _ => False) wc z → Kp (SW6 sh mp g m gf d) wc z ∧ z.cell? ⟨tb, 0, none⟩ = some (.int .i64 4) ∧ z.cell? ⟨tb, 1, none⟩ = some (.int .i64 (bl : Int)) ∧ z.cell? ⟨tb, 2, none⟩ = some (.int .i64 0)) := fun z k => HS1.out z (k.mono (fun _ _ e => e.elim))
          have HSt : Hid (∀ z z2, Kp (fun _ => False) wc z → Kp (SW6 sh mp g m gf d) z z2 → Kp (SW6 sh mp g m gf d) wc z2 ∧ z2.cell? ⟨tb, 0, none⟩ = some (.int .i64 4) ∧ z2.cell? ⟨tb, 1, none⟩ = some (.int .i64 (bl : Int)) ∧ z2.cell? ⟨tb, 2, none⟩ = some (.int .i64 0)) := fun z z2 k k2 => HS1.out z2 ((k.mono (fun _ _ e => e.elim)).trans k2 (fun _ _ e => e))
          have HWc : Hid (∀ (u u2 : World) (v : Value), Kp (fun _ => False) wc u → Kp (fun _ => False) u u2 → Ow u2 u.heap.size v xs → Calls Tryz.prog 45 #[.pointer (some ⟨sh, 0, none⟩), .agg #[.int .i64 4, .int .i64 (bl : Int), .int .i64 0, .int .i64 0, v]] u2 fun e9 w' => e9 = .returned (.int .i64 0) ∧ Kp (SW6 sh mp g m gf d) u2 w' ∧ Wrd w' w.heap.size sh mp g bp d m gf s b N h ⟨4, bl, 0, 0, xs⟩) := fun u u2 v k1 k2 ov => HWr.out u u2 v (HKc0.out.trans k1 (fun _ _ e => e)) k2 ov
          have kd : Kp (fun _ => False) wc wc.drew := (Kp.refl _ _).drew
          have HTr : Hid (∀ u u' : World, Kp (fun _ => False) wc u → Kp (fun _ => False) u u' → Kp (fun _ => False) wc u') := fun u u' h1 h2 => h1.trans h2 (fun _ _ e => e)
          clear HWr HS1
          go_upto_region 10 with fail
          go_region_held3 (fun z => Kp (SW6 sh mp g m gf d) wc z ∧ z.cell? ⟨tb, 0, none⟩ = some (.int .i64 4) ∧ z.cell? ⟨tb, 1, none⟩ = some (.int .i64 (bl : Int)) ∧ z.cell? ⟨tb, 2, none⟩ = some (.int .i64 0))
            (first
              | exact HS0.out _ kd
              | exact HS0.out _ kw1
              | exact HSt.out _ _ kw1 k8)
            (first
              | (go_at_call 13; refine (HCl.out _ kd).mono ?_; rintro e9 w7 ⟨v7, rfl, k7, o7⟩; obtain ⟨q7, c7, hv7, hc7, hr7, hb7⟩ := o7.rb HXb.out; subst hv7; clear hc7 hr7 hb7; have kw1 := HTr.out _ _ kd k7)
              | (go_at_call 45; refine (HWc.out _ _ _ kd k7 o7).mono ?_; rintro e9 w8 ⟨rfl, k8, s8⟩))
          all_goals
            have HF : Hid (Kp (SW6 sh mp g m gf d) w w8 ∧ Wrd w8 w.heap.size sh mp g bp d m gf s b N h ⟨4, bl, 0, 0, xs⟩) := ⟨(((HK0.out.trans HKc0.out (fun _ _ e => e)).trans kw1 (fun _ _ e => e)).mono (fun _ _ e => e.elim)).trans k8 (fun _ _ e => e), s8⟩
            clear HS0 HSt HWc HCl HTr kd kw1 k7 o7 k8 s8
            go_simp
            go_wp2_with fail
            go_ret
            exact Or.inr ⟨HN.out, rfl, HF.out⟩

end
end Go.Proofs.YtmooddbhcccicaaGreatDoor

/- A shelf whose log may be written anew: Noted, Sync, Life. -/
namespace Go.Proofs.YtmooddbhcccicaaGreatDoor
set_option linter.unusedVariables false
set_option linter.unusedSimpArgs false
open Go.RowKit Go.Deep Go.Maps

/-- a note's bytes -/
def ntd (h : List Rc) (n : Nat) : List Nat := match (stS h).1 ⟨4, (n : Int), 0⟩ with | some r => r.b | none => []
section
variable {w : World} {Z : Nat → Prop} {sh mp g bp d m gf s b N : Nat} {h : List Rc}
set_option maxRecDepth 100000 in
theorem r8noted_ok (x : Sk w Z sh mp g h) (n : Nat) (hn : n ≤ 1152921504606846976) :
    Calls Tryz.prog 30 #[.pointer (some ⟨sh, 0, none⟩), .int .i64 (n : Int)] w fun e w' => ∃ v, e = .returned v ∧ Kp (fun _ => False) w w' ∧ Ow w' w.heap.size v (ntd h n) ∧ ∀ z ∈ ntd h n, z < 256 := by
  have HM : Hid (Calls _ _ _ w _) := smade_ok (x.l.cell (j := 0) rfl)
  have c1 : w.cell? ⟨sh, 1, none⟩ = some (.map (some mp)) := x.l.cell (j := 1) rfl
  have hwf : wf3 ⟨4, (n : Int), 0⟩ := ⟨wf_n60 (n := 4) (by omega), wf_n60 hn, wf_n60 (n := 0) (by omega)⟩
  obtain ⟨c, T, hc1, hc2, hc3⟩ := x.m
  obtain ⟨F, hF⟩ : ∃ F, F = ntd h n := ⟨_, rfl⟩
  have HLk : Hid (∃ (a1 a2 a3 a4 : Int) (qq : Option Addr) (nn cc : Nat), (Instr.lookup 88 (.map (some mp)) (.agg #[.int .i64 4, .int .i64 (n : Int), .int .i64 0]) false).run Tryz.prog w = .ok (.agg #[.int .i64 a1, .int .i64 a2, .int .i64 a3, .int .i64 a4, .slice qq nn cc]) w ∧ nn ≤ 1980 ∧ Rb w qq nn F) := by
    have h1 := look_px3f (MT := 88) Tryz.underlying88 zeroRec hc2 hwf
    show ∃ (a1 a2 a3 a4 : Int) (qq : Option Addr) (nn cc : Nat), _
    rw [hF]
    unfold ntd
    cases hM : (stS h).1 ⟨4, (n : Int), 0⟩ with
    | none => rw [(hc3 _ hwf).1 hM] at h1; exact ⟨0, 0, 0, 0, none, 0, 0, h1, by omega, rb_nil0⟩
    | some o =>
      obtain ⟨p2, cp2, b1, b2, b3⟩ := (hc3 _ hwf).2 o hM
      rw [b1] at h1
      obtain ⟨_, _, _, _, _, g6, _⟩ := x.g o ((stS_bd x.g x.n).2.2 _ _ hM)
      exact ⟨_, _, _, _, _, _, _, h1, g6, b2⟩
  rw [← hF]
  obtain ⟨a1, a2, a3, a4, qq, nn, cc, hlk, hnn, hrb⟩ := HLk.out
  have hfd := rfield2 a1 a2 a3 a4 qq nn cc w
  have HCl : Hid (Calls _ _ _ w _) := clone_any qq nn cc F w hrb (by show _ ≤ _; omega)
  have HBy : Hid (∀ z ∈ F, z < 256) := hrb.byte
  clear x hn hwf hc1 hc2 hc3 hF HLk hrb hnn
  go_enter Tryz.func30, Tryz.ntmps30
  go_wp2_with fail
  refine HM.out.mono ?_
  rintro e9 w9 ⟨rfl, hw9⟩
  have hw8 := hw9.symm
  subst hw8
  clear hw9 HM
  go_wp2_with fail
  refine HCl.out.mono ?_
  rintro e9 w9 ⟨v, rfl, k9, o9⟩
  have HE : Hid (Kp (fun _ => False) _ w9 ∧ Ow w9 _ v F) := ⟨k9, o9⟩
  clear k9 o9 HCl hlk hfd c1
  go_wp2_with fail
  go_ret
  exact ⟨v, rfl, HE.out.1, HE.out.2, HBy.out⟩
set_option maxRecDepth 100000 in
set_option maxHeartbeats 1600000 in
theorem r8sync_ok (x : Shr w Z sh mp g bp d m gf s b N h) :
    Calls Tryz.prog 21 #[.pointer (some ⟨sh, 0, none⟩)] w fun e9 w' => e9 = .returned (.int .i64 0) ∧ Kp (fun v => v = d ∨ v = m) w w' ∧ Shr w' Z sh mp g bp d m gf s b N h := by
  obtain ⟨q, a, c, e, lt, y, dur, T, hl, h1, h2⟩ := x.lg
  have c0 : w.cell? ⟨sh, 0, none⟩ = some (.pointer (some ⟨g, 0, none⟩)) := x.sk.l.cell (j := 0) rfl
  have HM : Hid (Calls _ _ _ w _) := smade_ok c0
  have HL : Hid (Calls _ _ _ w _) := lg_sync hl
  have HF : Hid (∀ w', Kp (fun v => v = d ∨ v = m) w w' → Lg w' g bp d m gf s 0 a b c e lt (h.map wrS).length (h.map wrS) (durAll dur T (2 + s)) (fun _ => none) → Shr w' Z sh mp g bp d m gf s b N h) := fun w' k l => by
    have hm := x.aq m (Or.inr (Or.inl rfl))
    have hd := x.aq d (Or.inl rfl)
    refine ⟨⟨0, _, _, _, _, _, _, _, l, h1, h2⟩, x.sk.keep k (fun e => ?_) (fun e => ?_) (fun v hb e => ?_), ?_, fun v hv => Nat.lt_of_lt_of_le (x.zb v hv) k.size, x.ap, x.aq, x.ar, x.at_, x.rm, x.hl⟩
    · rcases e with e | e
      · exact hd.2.1 e.symm
      · exact hm.2.1 e.symm
    · rcases e with e | e
      · exact hd.2.2 e.symm
      · exact hm.2.2 e.symm
    · rcases e with e | e
      · exact hd.1 (e ▸ hb)
      · exact hm.1 (e ▸ hb)
    · exact fun j hj => k.cellv (x.tu j hj) (fun e => by
        rcases e with e | e
        · exact hl.lp.td e
        · exact hl.lp.tm e)
  clear x hl
  go_enter Tryz.func21, Tryz.ntmps21
  go_wp2_with fail
  refine HM.out.mono ?_
  rintro e9 w9 ⟨rfl, hw9⟩
  have hw8 := hw9.symm
  subst hw8
  clear hw9 HM
  go_wp2_with fail
  refine HL.out.mono ?_
  rintro e9 w9 ⟨rfl, k9, l9⟩
  have HE : Hid (Kp (fun v => v = d ∨ v = m) _ w9 ∧ _) := ⟨k9, HF.out w9 k9 l9⟩
  clear k9 l9 HL HF
  go_wp2
  go_ret
  exact ⟨rfl, HE.out.1, HE.out.2⟩
set_option maxRecDepth 100000 in
theorem r8life_ok (x : Shr w Z sh mp g bp d m gf s b N h) :
    Calls Tryz.prog 27 #[.pointer (some ⟨sh, 0, none⟩)] w fun e9 w' => e9 = .returned (.int .i64 b) ∧ w' = w := by
  obtain ⟨q, a, c, e, lt, y, dur, T, hl, _⟩ := x.lg
  have c0 : w.cell? ⟨sh, 0, none⟩ = some (.pointer (some ⟨g, 0, none⟩)) := x.sk.l.cell (j := 0) rfl
  have HM : Hid (Calls _ _ _ w _) := smade_ok c0
  have HL : Hid (Calls Tryz.prog 58 #[.pointer (some ⟨g, 0, none⟩)] w fun e9 w' => e9 = .returned (.int .i64 b) ∧ w' = w) := life_ok hl.wl
  clear hl x
  go_enter Tryz.func27, Tryz.ntmps27
  go_wp2_with fail
  refine HM.out.mono ?_
  rintro e9 w9 ⟨rfl, hw9⟩
  have hw8 := hw9.symm
  subst hw8
  clear hw9 HM
  go_wp2_with fail
  refine HL.out.mono ?_
  rintro e9 w9 ⟨rfl, hw9⟩
  have hw8 := hw9.symm
  subst hw8
  clear hw9 HL
  go_wp2
  go_ret
  exact ⟨rfl, rfl⟩
/-- nothing is told where no shard is -/
theorem hldL_none {h : List Rc} (hn : ∀ y : K3, y.k = 1 → (stS h).1 y = none) (ss : List K3) : hldL h ss = [] := by
  unfold hldL
  rw [List.filterMap_eq_nil_iff]
  intro y _
  by_cases hk : y.k = 1
  · rw [if_pos hk, hn y hk]
  · rw [if_neg hk]
theorem r8held_none (x : Sk w Z sh mp g h) (hn : ∀ y : K3, y.k = 1 → (stS h).1 y = none) :
    Calls Tryz.prog 16 #[.pointer (some ⟨sh, 0, none⟩)] w fun e w' => (∃ q c, e = .returned (.slice q 0 c)) ∧ Kp (fun _ => False) w w' := by
  refine (held_ok x).mono ?_
  rintro e w' ⟨v, ps, ss, rfl, k, hr, _, hps⟩
  rw [hldL_none hn] at hps
  have h0 : ps = [] := List.map_eq_nil_iff.1 hps
  subst h0
  rcases Joins.ownsRow_forms hr.1 with ⟨e1, e2⟩ | ⟨gg, cap, e1⟩
  · exact ⟨⟨none, 0, by rw [e1]⟩, k⟩
  · exact ⟨⟨_, cap, by rw [e1]; rfl⟩, k⟩
end
end Go.Proofs.YtmooddbhcccicaaGreatDoor

/- Regions that draw their order, whose operations add to the world, or write over what one earlier operation made: each is taken by one at most. -/
namespace Go.Proofs.YtmooddbhcccicaaGreatDoor
set_option linter.unusedVariables false
open Go.RowKit Go.Deep

section
variable {P : Program} {ops : Array Oper} {Q : Exit → Act → World → Prop}
/-- the parts of such a region: n slots, B of the acts, R of what is yielded, D where it lies, E which one an operation takes, Bl the block that one made, U whose results it uses -/
structure Owr where
  n : Nat
  B : (Nat → Bool) → Act → Prop
  R : Nat → Value → World → Prop
  D : Nat → Nat
  E : Nat → Option Nat
  Bl : Nat → Value → Option Nat
  U : Nat → List Nat
  T : List (Oper × List Nat)
/-- what must be shown of the k-th operation -/
def Owr.Step (c : Owr) (P : Program) (Q : Exit → Act → World → Prop) (w0 : World) (k : Nat) (o : Oper) (l : List Nat) : Prop :=
  o.dst = some (c.D k) ∧ o.guard = none ∧ (∀ j ∈ l, j < k) ∧ c.D k < c.n ∧ (∀ j, c.E k = some j → j ∈ c.U k) ∧ (∀ j ∈ c.U k, j ∈ l) ∧
  ∀ (L : Nat → Bool) (a : Act) (w : World), a.tmps.size = c.n → L k = false → (∀ i ol, c.T[i]? = some ol → L i = true → ∀ j ∈ ol.2, L j = true) → c.B L a → Kp (fun _ => False) w0 w →
    (∀ j ∈ c.U k, c.R j (a.eval (.tmp (c.D j))) w ∧ ∀ g, c.Bl j (a.eval (.tmp (c.D j))) = some g → w0.heap.size ≤ g ∧ g < w.heap.size) →
    ∀ K : Act → World → Prop, Shut (∀ v w', Kp (fun b => ∃ j, c.E k = some j ∧ c.Bl j (a.eval (.tmp (c.D j))) = some b) w w' → c.R k v w' →
      (∀ g, c.Bl k v = some g → (∃ j, c.E k = some j ∧ c.Bl j (a.eval (.tmp (c.D j))) = some g) ∨ (w.heap.size ≤ g ∧ g < w'.heap.size)) → K (a.put (some (c.D k)) v) w') → Oper.wp P o a w K Q
def Owr.Steps (c : Owr) (P : Program) (Q : Exit → Act → World → Prop) (w0 : World) : Nat → List (Oper × List Nat) → Prop
  | _, [] => True
  | k, (o, l) :: t => c.Step P Q w0 k o l ∧ c.Steps P Q w0 (k + 1) t
theorem Owr.Steps.get {c : Owr} {w0 : World} : ∀ (t : List (Oper × List Nat)) (k i : Nat) (o : Oper) (l : List Nat), c.Steps P Q w0 k t → t[i]? = some (o, l) → c.Step P Q w0 (k + i) o l
  | [], _, _, _, _, _, h => by simp at h
  | x :: t, k, 0, o, l, h, hi => by
    simp at hi
    subst hi
    exact h.1
  | x :: t, k, i + 1, o, l, h, hi => by
    have := Owr.Steps.get t (k + 1) i o l h.2 (by simpa using hi)
    rw [show k + (i + 1) = k + 1 + i by omega]
    exact this
theorem own_region (c : Owr) {id : Nat} {a0 : Act} {y : World} (hm : P.follows .mixedOrders = true) (hT : ops.toList.map (fun o => (bare o, deps o)) = c.T) (hn : a0.tmps.size = c.n) (hB : c.B (fun _ => false) a0)
    (hBp : ∀ k v a L, k < c.T.length → L k = false → c.B L a → c.B (fun i => if i = k then true else L i) (a.put (some (c.D k)) v))
    (hD : ∀ i j, i < c.T.length → j < c.T.length → c.D i = c.D j → i = j)
    (hE : ∀ k k', k < c.T.length → k' < c.T.length → ∀ j, c.E k = some j → j ∈ c.U k' → k' = k)
    (hR : ∀ i v w w' S, c.R i v w → Kp S w w' → (∀ g, c.Bl i v = some g → ¬ S g) → c.R i v w')
    (hs : c.Steps P Q y.drew 0 c.T)
    (hend : ∀ L a w, a.tmps.size = c.n → c.B L a → Kp (fun _ => False) y.drew w → (∀ i, i < c.T.length → (∀ k, k < c.T.length → c.E k ≠ some i) → c.R i (a.eval (.tmp (c.D i))) w ∧ ∀ g, c.Bl i (a.eval (.tmp (c.D i))) = some g → y.drew.heap.size ≤ g ∧ g < w.heap.size) → Q .normal a w) :
    (Code.region id ops true).wp P Q a0 y := by
  have hTl : c.T.length = ops.size := by rw [← hT]; simp
  have hTi : ∀ (i : Nat) (o : Oper), ops[i]? = some o → c.T[i]? = some (bare o, deps o) := fun i o ho => by
    rw [← hT, List.getElem?_map]
    simp [ho]
  have hst : ∀ (i : Nat) (o : Oper), ops[i]? = some o → c.Step P Q y.drew i (bare o) (deps o) := fun i o ho => by
    have := Owr.Steps.get c.T 0 i _ _ hs (hTi i o ho)
    rwa [Nat.zero_add] at this
  refine wp_region_held_drew (S := fun _ => True) hm trivial (fun _ => ?_)
  refine wpAnyH_inv (fun listed a w => a.tmps.size = c.n ∧ (c.B (fun i => listed.getD i false) a ∧ ∀ i o, ops[i]? = some o → listed.getD i false = true → ∀ j ∈ deps o, listed.getD j false = true) ∧ listed.size = ops.size ∧ Kp (fun _ => False) y.drew w ∧
    (∀ i, i < ops.size → listed.getD i false = true → (∀ k, k < ops.size → c.E k = some i → listed.getD k false = false) → c.R i (a.eval (.tmp (c.D i))) w ∧ ∀ g, c.Bl i (a.eval (.tmp (c.D i))) = some g → y.drew.heap.size ≤ g ∧ g < w.heap.size) ∧
    ∀ i, i < ops.size → listed.getD i false = true → (∀ k, k < ops.size → c.E k = some i → listed.getD k false = false) → ∀ j, j < ops.size → listed.getD j false = true → (∀ k, k < ops.size → c.E k = some j → listed.getD k false = false) → i ≠ j → ∀ g, c.Bl i (a.eval (.tmp (c.D i))) = some g → c.Bl j (a.eval (.tmp (c.D j))) = some g → False) ?_ ?_ _ _ _ _ ?_ ?_
  · rintro listed a w i ⟨h1, ⟨h2, hcl⟩, h3, h4, h5, h6⟩ hi
    obtain ⟨hu, o, ho, hall⟩ := mem_ready.1 hi
    have hlt := (Array.getElem?_eq_some_iff.1 ho).1
    have hul : listed.getD i false = false := by
      have hsz : i < listed.size := by omega
      simpa [hsz] using hu
    obtain ⟨hdo, hg, hj, hdn, hEi, hU, hw⟩ := hst i o ho
    unfold wpOp
    rw [ho]
    dsimp only
    have hlist : ∀ j ∈ c.U i, j < ops.size ∧ listed.getD j false = true ∧ (∀ k, k < ops.size → c.E k = some j → listed.getD k false = false) := fun j hmem => by
      have hjl := hU j hmem
      have hjlt := hj j hjl
      obtain ⟨e, he, rfl⟩ := List.mem_map.1 hjl
      obtain ⟨he1, he2⟩ := List.mem_filter.1 he
      refine ⟨Nat.lt_trans hjlt hlt, hall e (by simpa using he1) he2, fun k hk hek => ?_⟩
      have := hE k i (by omega) (by omega) _ hek hmem
      rw [← this]
      exact hul
    have hdep : ∀ j ∈ c.U i, c.R j (a.eval (.tmp (c.D j))) w ∧ ∀ g, c.Bl j (a.eval (.tmp (c.D j))) = some g → y.drew.heap.size ≤ g ∧ g < w.heap.size := fun j hjl => h5 j (hlist j hjl).1 (hlist j hjl).2.1 (hlist j hjl).2.2
    have hset : ∀ j, j ≠ i → (listed.setIfInBounds i true).getD j false = listed.getD j false := fun j hji => by
      simp [Array.getElem?_setIfInBounds_ne (fun e => hji e.symm)]
    have hseti : (listed.setIfInBounds i true).getD i false = true := by
      have hsz : i < listed.size := by omega
      simp [hsz]
    have halive : ∀ j, (∀ k, k < ops.size → c.E k = some j → (listed.setIfInBounds i true).getD k false = false) → (∀ k, k < ops.size → c.E k = some j → listed.getD k false = false) ∧ c.E i ≠ some j := fun j hA => by
      refine ⟨fun k hk hek => ?_, fun e => ?_⟩
      · by_cases e : k = i
        · rw [e]; exact hul
        · rw [← hset k e]; exact hA k hk hek
      · have := hA i hlt e
        rw [hseti] at this
        cases this
    rw [if_pos (wanted_none (o := o) hg)]
    refine Or.inl ?_
    rw [← wp_bare]
    refine hw (fun i => listed.getD i false) a w h1 hul (fun i' ol hol hl j hjl => ?_) h2 h4 hdep _ ?_
    · have hlt' : i' < ops.size := by rw [← hTl]; exact (List.getElem?_eq_some_iff.1 hol).1
      have ho' := Array.getElem?_eq_getElem hlt'
      have h9 := hTi i' _ ho'
      rw [hol] at h9
      injection h9 with h9
      subst h9
      exact hcl i' _ ho' hl j hjl
    intro v w' hk hv hbl
    have hdl : ∀ j ∈ deps o, listed.getD j false = true := fun j hjl => by
      obtain ⟨e, he, rfl⟩ := List.mem_map.1 hjl
      obtain ⟨he1, he2⟩ := List.mem_filter.1 he
      exact hall e (by simpa using he1) he2
    have hmono : ∀ j, listed.getD j false = true → (listed.setIfInBounds i true).getD j false = true := fun j hj2 => by
      by_cases e : j = i
      · rw [e]; exact hseti
      · rw [hset j e]; exact hj2
    have hcl' : ∀ i' o', ops[i']? = some o' → (listed.setIfInBounds i true).getD i' false = true → ∀ j ∈ deps o', (listed.setIfInBounds i true).getD j false = true := fun i' o' ho' hl' j hj2 => by
      by_cases e : i' = i
      · subst e
        rw [ho] at ho'
        cases ho'
        exact hmono j (hdl j hj2)
      · rw [hset i' e] at hl'
        exact hmono j (hcl i' o' ho' hl' j hj2)
    have hfun : (fun j => (listed.setIfInBounds i true).getD j false) = fun j => if j = i then true else listed.getD j false := by
      funext j
      by_cases e : j = i
      · rw [if_pos e, e]; exact hseti
      · rw [if_neg e]; exact hset j e
    obtain ⟨p1, p2, p3, p4⟩ := act_put a (c.D i) v (by rw [h1]; exact hdn)
    have hsz' := hk.size
    have hother : ∀ j, j < ops.size → j ≠ i → (a.put (some (c.D i)) v).eval (.tmp (c.D j)) = a.eval (.tmp (c.D j)) := fun j hjs hji => p4 (c.D j) (fun h => hji (hD j i (by omega) (by omega) h))
    refine ⟨p1.trans h1, ⟨by rw [hfun]; exact hBp i v a _ (by omega) hul h2, hcl'⟩, by rw [Array.size_setIfInBounds]; exact h3, ?_, ?_, ?_⟩
    · refine h4.trans hk (fun b hb e => ?_)
      obtain ⟨j, hej, hbj⟩ := e
      have := ((hdep j (hEi j hej)).2 b hbj).1
      omega
    · intro j hjs hl hA
      by_cases e : j = i
      · subst e
        rw [p3]
        refine ⟨hv, fun g hg => ?_⟩
        rcases hbl g hg with ⟨q, hq1, hq2⟩ | hq
        · have := (hdep q (hEi q hq1)).2 g hq2
          omega
        · have := h4.size
          omega
      · rw [hother j hjs e]
        obtain ⟨hA1, hA2⟩ := halive j hA
        rw [hset j e] at hl
        obtain ⟨r1, r2⟩ := h5 j hjs hl hA1
        refine ⟨hR j _ w w' _ r1 hk (fun g hg hS => ?_), fun g hg => by have := r2 g hg; omega⟩
        obtain ⟨q, hq1, hq2⟩ := hS
        have hql := hlist q (hEi q hq1)
        exact h6 j hjs hl hA1 q hql.1 hql.2.1 hql.2.2 (fun e2 => hA2 (by rw [e2]; exact hq1)) g hg hq2
    · have key : ∀ j, j < ops.size → (listed.setIfInBounds i true).getD j false = true → (∀ k, k < ops.size → c.E k = some j → (listed.setIfInBounds i true).getD k false = false) → j ≠ i → ∀ g, c.Bl i v = some g → c.Bl j (a.eval (.tmp (c.D j))) = some g → False := fun j hjs hl hA e g hg1 hg2 => by
        obtain ⟨hA1, hA2⟩ := halive j hA
        rw [hset j e] at hl
        rcases hbl g hg1 with ⟨q, hq1, hq2⟩ | hq
        · have hql := hlist q (hEi q hq1)
          exact h6 j hjs hl hA1 q hql.1 hql.2.1 hql.2.2 (fun e2 => hA2 (by rw [e2]; exact hq1)) g hg2 hq2
        · have := ((h5 j hjs hl hA1).2 g hg2).2
          omega
      intro j hjs hl hA q hqs hql hqA hne g hg1 hg2
      by_cases e : j = i
      · subst e
        rw [p3] at hg1
        rw [hother q hqs (fun e => hne e.symm)] at hg2
        exact key q hqs hql hqA (fun e => hne e.symm) g hg1 hg2
      · by_cases e2 : q = i
        · subst e2
          rw [p3] at hg2
          rw [hother j hjs e] at hg1
          exact key j hjs hl hA e g hg2 hg1
        · rw [hother j hjs e] at hg1
          rw [hother q hqs e2] at hg2
          rw [hset j e] at hl
          rw [hset q e2] at hql
          exact h6 j hjs hl (halive j hA).1 q hqs hql (halive q hqA).1 hne g hg1 hg2
  · rintro listed a w ⟨h1, ⟨h2, _⟩, h3, h4, h5, h6⟩ hr
    have hall : ∀ m i, i < m → i < ops.size → listed.getD i false = true := by
      intro m
      induction m with
      | zero => intro i hi; omega
      | succ m ih =>
        intro i hi hs'
        by_cases e : i < m
        · exact ih i e hs'
        · cases hl : listed.getD i false with
          | true => rfl
          | false =>
            have hac := (hst i ops[i] (Array.getElem?_eq_getElem hs')).2.2.1
            have hmem : i ∈ Region.ready .any ops listed := by
              refine mem_ready.2 ⟨?_, ops[i], Array.getElem?_eq_getElem hs', fun e' he' hb' => ?_⟩
              · have hsz : i < listed.size := by omega
                simpa [hsz] using hl
              · have hlt := hac e'.on (List.mem_map.2 ⟨e', List.mem_filter.2 ⟨by simpa using he', hb'⟩, rfl⟩)
                exact ih e'.on (by omega) (by omega)
            rw [hr] at hmem
            cases hmem
    exact hend _ a w h1 h2 h4 (fun i hi hne => h5 i (by omega) (hall (i + 1) i (by omega) (by omega)) (fun k hk hek => absurd hek (hne k (by omega))))
  · unfold leftN
    have := List.countP_le_length (p := fun i => !(Array.replicate ops.size false).getD i true) (l := List.range ops.size)
    rw [List.length_range] at this
    exact this
  · have hz : ∀ i, (Array.replicate ops.size false).getD i false = false := fun i => by
      by_cases h : i < ops.size <;> simp [h]
    refine ⟨hn, ⟨by rw [show (fun i => (Array.replicate ops.size false).getD i false) = fun _ => false from funext hz]; exact hB, fun i o ho hl => ?_⟩, by simp, Kp.refl _ _, fun i hi hl => ?_, fun i hi hl => ?_⟩ <;> (rw [hz] at hl; cases hl)
end
end Go.Proofs.YtmooddbhcccicaaGreatDoor
