/- A shelf whose log may be written anew: Drop, Store. -/
import Derived.Test.YtmooddbhcccicaaGreatDoorJrs
namespace Go.Proofs.YtmooddbhcccicaaGreatDoor
set_option linter.unusedVariables false
set_option linter.unusedSimpArgs false
open Go.RowKit Go.Deep Go.Maps

theorem Wrd.mono {w' : World} {w0 w1 sh mp g bp d m gf s b N : Nat} {h : List Rc} {r : Rc} (x : Wrd w' w0 sh mp g bp d m gf s b N h r) (hw : w1 ≤ w0) : Wrd w' w1 sh mp g bp d m gf s b N h r := by
  obtain ⟨Z', gf', h', e, a, b⟩ := x
  exact ⟨Z', gf', h', e.imp id (fun e => Nat.le_trans hw e), a, b⟩
section
variable {w : World} {Z : Nat → Prop} {sh mp g bp d m gf s b N : Nat} {h : List Rc}
set_option maxRecDepth 100000 in
set_option maxHeartbeats 3200000 in
theorem rdrop_ok (x : Shr w Z sh mp g bp d m gf s b N h) (bl ix : Nat) (hbl : bl ≤ 1152921504606846976) (hix : ix ≤ 1152921504606846976) (hN : N + 1 ≤ 1000)
    (hroom : 2 * (secS ⟨2, bl, ix, 0, []⟩ : Int) + 2 * (stS h).2 ≤ (s : Int)) :
    Calls Tryz.prog 22 #[.pointer (some ⟨sh, 0, none⟩), .int .i64 (bl : Int), .int .i64 (ix : Int)] w fun e9 w' =>
      ((stS h).1 ⟨1, (bl : Int), (ix : Int)⟩ = none ∧ e9 = .returned (.int .i64 80) ∧ Kp (fun _ => False) w w') ∨
      ((∃ o, (stS h).1 ⟨1, (bl : Int), (ix : Int)⟩ = some o) ∧ e9 = .returned (.int .i64 0) ∧ Kp (SW6 sh mp g m gf d) w w' ∧ Wrd w' w.heap.size sh mp g bp d m gf s b N h ⟨2, bl, ix, 0, []⟩) := by
  obtain ⟨r0, hr0⟩ : ∃ r0, r0 = w.heap.size := ⟨_, rfl⟩
  obtain ⟨w0, hw0⟩ : ∃ y, y = w.alloc (.cells #[.int .i64 (bl : Int), .int .i64 (ix : Int)] 3) := ⟨_, rfl⟩
  have HK0 : Hid (Kp (fun _ => False) w w0) := by rw [hw0]; exact (Kp.refl _ _).alloc _
  have HS0 : Hid (Shr w0 Z sh mp g bp d m gf s b N h) := x.keep0 HK0.out
  have HA : Hid (Calls Tryz.prog 44 #[.pointer (some ⟨sh, 0, none⟩), .slice (some ⟨r0, 0, none⟩) 2 2] w0 fun e w' => e = .returned (.int .i64 0) ∧ w' = w0) := by
    have h1 := asked_ok (HS0.out.sk.l.cell (j := 0) rfl) (some ⟨r0, 0, none⟩) 2 2 [(bl : Int), (ix : Int)] (by rw [hw0, hr0]; exact rz2 w _ _ _) rfl (by omega)
    rw [upTo2 hbl hix] at h1
    exact h1
  have hwf : wf3 ⟨1, (bl : Int), (ix : Int)⟩ := ⟨wf_n60 (n := 1) (by omega), wf_n60 hbl, wf_n60 hix⟩
  obtain ⟨a1, a2, a3, a4, qq, nn, cc, ok, hlk, hM⟩ := HS0.out.sk.look _ hwf
  have hlk0 : (Instr.lookup 88 (.map (some mp)) (.agg #[.int .i64 1, .int .i64 (bl : Int), .int .i64 (ix : Int)]) true).run Tryz.prog w0 = .ok (.tuple #[.agg #[.int .i64 a1, .int .i64 a2, .int .i64 a3, .int .i64 a4, .slice qq nn cc], .bool ok]) w0 := hlk w0 (Kp.refl _ _)
  have HM : Hid ((ok = false ∧ (stS h).1 ⟨1, (bl : Int), (ix : Int)⟩ = none) ∨ (ok = true ∧ ∃ o, (stS h).1 ⟨1, (bl : Int), (ix : Int)⟩ = some o)) := by
    rcases hM with hM | ⟨h1, o, h2, _⟩
    · exact Or.inl hM
    · exact Or.inr ⟨h1, o, h2⟩
  have HWr : Hid (∀ u, Kp (fun _ => False) w0 u → Calls Tryz.prog 45 #[.pointer (some ⟨sh, 0, none⟩), .agg #[.int .i64 2, .int .i64 (bl : Int), .int .i64 (ix : Int), .int .i64 0, .slice none 0 0]] u fun e9 w' => e9 = .returned (.int .i64 0) ∧ Kp (SW6 sh mp g m gf d) u w' ∧ Wrd w' w.heap.size sh mp g bp d m gf s b N h ⟨2, bl, ix, 0, []⟩) := fun u ku =>
    ((HS0.out.keep0 ku).write ⟨2, bl, ix, 0, []⟩ none 0 rb_nil0 ⟨⟨show 1 ≤ 2 by omega, show 2 ≤ 4 by omega⟩, hbl, hix, show 0 ≤ 1152921504606846976 by omega, fun x hx => absurd hx List.not_mem_nil, show 0 ≤ 1980 by omega, fun _ => rfl⟩ hN (fun a ha => absurd ha (by simp)) hroom).mono (fun e9 w' hh => ⟨hh.1, hh.2.1, hh.2.2.mono (Nat.le_trans HK0.out.size ku.size)⟩)
  have c1 : w0.cell? ⟨sh, 1, none⟩ = some (.map (some mp)) := HS0.out.sk.l.cell (j := 1) rfl
  clear x hbl hix hN hroom hwf hlk hM
  go_enter Tryz.func22, Tryz.ntmps22
  go_wp2_with fail
  rw [← hw0, ← hr0]
  clear hw0 hr0
  refine HA.out.mono ?_
  rintro e9 w9 ⟨rfl, hw9⟩
  have hw8 := hw9.symm
  subst hw8
  clear hw9 HA
  have HKa : Hid (∀ o : Obj, Kp (fun _ => False) w0 (w0.alloc o)) := fun o => (Kp.refl _ _).alloc o
  rcases HM.out with ⟨rfl, hno⟩ | ⟨rfl, hyes⟩
  · have HN : Hid ((stS h).1 ⟨1, (bl : Int), (ix : Int)⟩ = none) := hno
    clear hno HM HWr
    go_wp2_with fail
    go_ret
    exact Or.inl ⟨HN.out, rfl, HK0.out.trans (HKa.out _) (fun _ _ e => e)⟩
  · have HY : Hid (∃ o, (stS h).1 ⟨1, (bl : Int), (ix : Int)⟩ = some o) := hyes
    clear hyes HM
    go_wp2_with fail
    refine (HWr.out _ (HKa.out _)).mono ?_
    rintro e9 w3 ⟨rfl, k3, s3⟩
    have HF : Hid (Kp (SW6 sh mp g m gf d) w w3 ∧ Wrd w3 w.heap.size sh mp g bp d m gf s b N h ⟨2, bl, ix, 0, []⟩) := ⟨((HK0.out.trans (HKa.out _) (fun _ _ e => e)).mono (fun _ _ e => e.elim)).trans k3 (fun _ _ e => e), s3⟩
    clear k3 s3 HWr
    go_wp2_with fail
    go_ret
    exact Or.inr ⟨HY.out, rfl, HF.out⟩
set_option maxRecDepth 100000 in
set_option maxHeartbeats 3200000 in
theorem rstore_ok (x : Shr w Z sh mp g bp d m gf s b N h) (bl ix ep : Nat) (hbl : bl ≤ 1152921504606846976) (hix : ix ≤ 1152921504606846976) (hep : ep ≤ 1152921504606846976) (p : Option Addr) (n cp : Nat) (xs : List Nat) (hr : Rb w p n xs) (hxn : n = xs.length) (hx1 : 1 ≤ n ∧ n ≤ 1980) (hxb : ∀ v ∈ xs, v < 256)
    (hN : N + 1 ≤ 1000) (hroom : 2 * (secS ⟨1, bl, ix, 0, xs⟩ : Int) + 2 * (stS h).2 ≤ (s : Int)) :
    Calls Tryz.prog 14 #[.pointer (some ⟨sh, 0, none⟩), .int .i64 (bl : Int), .int .i64 (ix : Int), .int .i64 (ep : Int), .slice p n cp] w fun e9 w' =>
      (ep < fncd h bl ix ∧ e9 = .returned (.int .i64 81) ∧ Kp (fun _ => False) w w') ∨
      (fncd h bl ix ≤ ep ∧ (stS h).1 ⟨1, (bl : Int), (ix : Int)⟩ = none ∧ e9 = .returned (.int .i64 0) ∧ Kp (SW6 sh mp g m gf d) w w' ∧ Wrd w' w.heap.size sh mp g bp d m gf s b N h ⟨1, bl, ix, 0, xs⟩) ∨
      (fncd h bl ix ≤ ep ∧ ∃ o, (stS h).1 ⟨1, (bl : Int), (ix : Int)⟩ = some o ∧ e9 = .returned (.int .i64 (if o.b = xs then 0 else 82)) ∧ Kp (fun _ => False) w w') := by
  obtain ⟨r0, hr0⟩ : ∃ r0, r0 = w.heap.size := ⟨_, rfl⟩
  obtain ⟨w0, hw0⟩ : ∃ y, y = w.alloc (.cells #[.int .i64 (bl : Int), .int .i64 (ix : Int), .int .i64 (ep : Int)] 3) := ⟨_, rfl⟩
  have HK0 : Hid (Kp (fun _ => False) w w0) := by rw [hw0]; exact (Kp.refl _ _).alloc _
  have HS0 : Hid (Shr w0 Z sh mp g bp d m gf s b N h) := x.keep0 HK0.out
  have HA : Hid (Calls Tryz.prog 44 #[.pointer (some ⟨sh, 0, none⟩), .slice (some ⟨r0, 0, none⟩) 3 3] w0 fun e w' => e = .returned (.int .i64 0) ∧ w' = w0) := by
    have h1 := asked_ok (HS0.out.sk.l.cell (j := 0) rfl) (some ⟨r0, 0, none⟩) 3 3 [(bl : Int), (ix : Int), (ep : Int)] (by rw [hw0, hr0]; exact rz3 w _ _ _ _) rfl (by omega)
    rw [upTo3 hbl hix hep] at h1
    exact h1
  have HFe : Hid (Calls _ _ _ w0 _) := fenced_ok HS0.out.sk bl ix hbl hix
  obtain ⟨F, hF⟩ : ∃ F, F = fncd h bl ix := ⟨_, rfl⟩
  rw [← hF] at HFe ⊢
  have hwf : wf3 ⟨1, (bl : Int), (ix : Int)⟩ := ⟨wf_n60 (n := 1) (by omega), wf_n60 hbl, wf_n60 hix⟩
  obtain ⟨a1, a2, a3, a4, qq, nn, cc, ok, hlk, hM⟩ := HS0.out.sk.look _ hwf
  have hlk0 : (Instr.lookup 88 (.map (some mp)) (.agg #[.int .i64 1, .int .i64 (bl : Int), .int .i64 (ix : Int)]) true).run Tryz.prog w0 = .ok (.tuple #[.agg #[.int .i64 a1, .int .i64 a2, .int .i64 a3, .int .i64 a4, .slice qq nn cc], .bool ok]) w0 := hlk w0 (Kp.refl _ _)
  have HM : Hid ((ok = false ∧ (stS h).1 ⟨1, (bl : Int), (ix : Int)⟩ = none) ∨ (ok = true ∧ ∃ o, (stS h).1 ⟨1, (bl : Int), (ix : Int)⟩ = some o ∧ nn = o.b.length ∧ Rb w0 qq o.b.length o.b ∧ GoodR o)) := by
    rcases hM with hM | ⟨h1, o, h2, _, _, _, _, h3, h4, h5, _⟩
    · exact Or.inl hM
    · exact Or.inr ⟨h1, o, h2, h3, h4, h5⟩
  have c1 : w0.cell? ⟨sh, 1, none⟩ = some (.map (some mp)) := HS0.out.sk.l.cell (j := 1) rfl
  have HF1 : Hid (F = fncd h bl ix) := hF
  have HLk : Hid (∀ z, Kp (fun _ => False) w0 z → (Instr.lookup 88 (.map (some mp)) (.agg #[.int .i64 1, .int .i64 (bl : Int), .int .i64 (ix : Int)]) true).run Tryz.prog z = .ok (.tuple #[.agg #[.int .i64 a1, .int .i64 a2, .int .i64 a3, .int .i64 a4, .slice qq nn cc], .bool ok]) z) := hlk
  have HB0 : Hid (Rb w0 p n xs) := hr.keep0 HK0.out
  have HX : Hid (n = xs.length ∧ 1 ≤ n ∧ n ≤ 1980) := ⟨hxn, hx1⟩
  have HSB : Hid (∀ v, SW6 sh mp g m gf d v → v < w0.heap.size) := HS0.out.blk
  have HWr : Hid (∀ (u u2 : World) (v : Value), Kp (fun _ => False) w0 u → Kp (fun _ => False) u u2 → Ow u2 u.heap.size v xs → Calls Tryz.prog 45 #[.pointer (some ⟨sh, 0, none⟩), .agg #[.int .i64 1, .int .i64 (bl : Int), .int .i64 (ix : Int), .int .i64 0, v]] u2 fun e9 w' => e9 = .returned (.int .i64 0) ∧ Kp (SW6 sh mp g m gf d) u2 w' ∧ Wrd w' w.heap.size sh mp g bp d m gf s b N h ⟨1, bl, ix, 0, xs⟩) := fun u u2 v k1 k2 ov => by
    obtain ⟨q9, c9, rfl, hc9, hr9, hb9⟩ := ov.rb hxb
    have hbl9 : xs.length ≤ 1980 := by omega
    exact (((HS0.out.keep0 k1).keep0 k2).write ⟨1, bl, ix, 0, xs⟩ q9 c9 hr9 ⟨⟨show 1 ≤ 1 by omega, show 1 ≤ 4 by omega⟩, hbl, hix, show 0 ≤ 1152921504606846976 by omega, hxb, hbl9, fun e => by rcases e with e | e <;> cases e⟩ hN (fun z hz => ⟨(ownBlock_lt ov (hb9 z hz).2).2, fun e => by
      have := (hb9 z hz).1
      have h2 := k1.size
      have h3 := HSB.out _ e
      omega⟩) hroom).mono (fun e9 w' hh => ⟨hh.1, hh.2.1, hh.2.2.mono (Nat.le_trans HK0.out.size (Nat.le_trans k1.size k2.size))⟩)
  have HXb : Hid (∀ v ∈ xs, v < 256) := hxb
  have hn1 : ¬ ((n : Int) < 1) := by omega
  have hn2 : ¬ ((1980 : Int) < (n : Int)) := by omega
  clear x hbl hix hep hwf hlk hlk0 hM hF HS0 hr hxn hx1 hxb hN hroom
  go_enter Tryz.func14, Tryz.ntmps14
  go_wp2_with fail
  rw [← hw0, ← hr0]
  clear hw0 hr0
  refine HA.out.mono ?_
  rintro e9 w9 ⟨rfl, hw9⟩
  have hw8 := hw9.symm
  subst hw8
  clear hw9 HA
  go_wp2_with fail
  refine HFe.out.mono ?_
  rintro e9 w9 ⟨rfl, hw9⟩
  have hw8 := hw9.symm
  subst hw8
  clear hw9 HFe
  by_cases hlt : (ep : Int) < (F : Int)
  · have HL : Hid (ep < F) := by show _ < _; omega
    clear HM HWr
    go_wp2_with fail
    go_ret
    exact Or.inl ⟨HL.out, rfl, HK0.out⟩
  · have HL : Hid (F ≤ ep) := by show _ ≤ _; omega
    obtain ⟨tb, htb⟩ : ∃ tb, tb = w0.heap.size := ⟨_, rfl⟩
    obtain ⟨w1, hw1⟩ : ∃ y, y = w0.alloc (.cells #[.int .i64 1, .int .i64 (bl : Int), .int .i64 (ix : Int)] 83) := ⟨_, rfl⟩
    have HK1 : Hid (Kp (fun _ => False) w0 w1) := by rw [hw1]; exact (Kp.refl _ _).alloc _
    have HT1 : Hid (Lv w1 tb [.int .i64 1, .int .i64 (bl : Int), .int .i64 (ix : Int)]) := by rw [hw1, htb]; exact Lv.new _ _ _
    have HTb : Hid (tb = w0.heap.size) := htb
    go_upto_region 9 with fail
    rw [← hw1, ← htb]
    clear hw1 htb
    have HSl : Hid (∀ z, Kp (fun _ => False) w1 z → Kp (fun _ => False) w1 z ∧ z.cell? ⟨sh, 1, none⟩ = some (.map (some mp)) ∧ z.cell? ⟨tb, 0, none⟩ = some (.int .i64 1) ∧ z.cell? ⟨tb, 1, none⟩ = some (.int .i64 (bl : Int)) ∧ z.cell? ⟨tb, 2, none⟩ = some (.int .i64 (ix : Int)) ∧ (Instr.lookup 88 (.map (some mp)) (.agg #[.int .i64 1, .int .i64 (bl : Int), .int .i64 (ix : Int)]) true).run Tryz.prog z = .ok (.tuple #[.agg #[.int .i64 a1, .int .i64 a2, .int .i64 a3, .int .i64 a4, .slice qq nn cc], .bool ok]) z) := fun z k => ⟨k, (HK1.out.trans k (fun _ _ e => e)).cellv c1 id, k.cellv (HT1.out.cell (j := 0) rfl) id, k.cellv (HT1.out.cell (j := 1) rfl) id, k.cellv (HT1.out.cell (j := 2) rfl) id, HLk.out z (HK1.out.trans k (fun _ _ e => e))⟩
    go_cut [13, 14] (fun v6 v7 wz => ∃ q, v6 = .pointer (some ⟨q, 0, none⟩) ∧ v7 = .bool ok ∧ Hid (Kp (fun _ => False) w1 wz) ∧ Hid (Lv wz q [.int .i64 a1, .int .i64 a2, .int .i64 a3, .int .i64 a4, .slice qq nn cc]))
    case first =>
      clear HM HWr c1
      have kd : Kp (fun _ => False) w1 w1.drew := (Kp.refl _ _).drew
      have kda : ∀ o : Obj, Kp (fun _ => False) w1 (w1.drew.alloc o) := fun o => (Kp.refl _ _).drew.alloc o
      go_region_held3 (fun z => Kp (fun _ => False) w1 z ∧ z.cell? ⟨sh, 1, none⟩ = some (.map (some mp)) ∧ z.cell? ⟨tb, 0, none⟩ = some (.int .i64 1) ∧ z.cell? ⟨tb, 1, none⟩ = some (.int .i64 (bl : Int)) ∧ z.cell? ⟨tb, 2, none⟩ = some (.int .i64 (ix : Int)) ∧ (Instr.lookup 88 (.map (some mp)) (.agg #[.int .i64 1, .int .i64 (bl : Int), .int .i64 (ix : Int)]) true).run Tryz.prog z = .ok (.tuple #[.agg #[.int .i64 a1, .int .i64 a2, .int .i64 a3, .int .i64 a4, .slice qq nn cc], .bool ok]) z)
        (first
          | exact HSl.out _ kd
          | exact HSl.out _ (kda _))
        (fail)
      all_goals
        go_simp
        go_wp2_with fail
        go_meet
        first
          | exact ⟨_, rfl, rfl, kda _, Lv.new _ _ _⟩
          | exact ⟨_, rfl, rfl, ((Kp.refl _ _).alloc _).drew, (Lv.new _ _ _).keep (S := fun _ => False) ((Kp.refl _ _).drew) id⟩
          | trace_state
    case rest =>
      obtain ⟨q, rfl, rfl, HKc, HLc⟩ := hcut
      have HKc0 : Hid (Kp (fun _ => False) w0 wc) := HK1.out.trans HKc.out (fun _ _ e => e)
      have HTc : Hid (Lv wc tb [.int .i64 1, .int .i64 (bl : Int), .int .i64 (ix : Int)]) := HT1.out.keep HKc.out id
      clear HSl c1 HLk
      rcases HM.out with ⟨rfl, hno⟩ | ⟨rfl, o, ho, rfl, hrb, hgo⟩
      · have HN : Hid ((stS h).1 ⟨1, (bl : Int), (ix : Int)⟩ = none) := hno
        clear hno HM
        have HCl : Hid (∀ u, Kp (fun _ => False) wc u → Calls Tryz.prog 13 #[.slice p n cp] u fun e w' => ∃ v, e = .returned v ∧ Kp (fun _ => False) u w' ∧ Ow w' u.heap.size v xs) := fun u ku => clone_any p n cp xs u (HB0.out.keep0 (HKc0.out.trans ku (fun _ _ e => e))) (by have := HX.out; show _ ≤ _; omega)
        have HBk : Hid (¬ SW6 sh mp g m gf d tb) := by
          have h2 := HTb.out
          show ¬ _
          intro e
          have h1 := HSB.out _ e
          omega
        have HS1 : Hid (∀ z, Kp (SW6 sh mp g m gf d) wc z → Kp (SW6 sh mp g m gf d) wc z ∧ z.cell? ⟨tb, 0, none⟩ = some (.int .i64 1) ∧ z.cell? ⟨tb, 1, none⟩ = some (.int .i64 (bl : Int)) ∧ z.cell? ⟨tb, 2, none⟩ = some (.int .i64 (ix : Int))) := fun z k => ⟨k, k.cellv (HTc.out.cell (j := 0) rfl) HBk.out, k.cellv (HTc.out.cell (j := 1) rfl) HBk.out, k.cellv (HTc.out.cell (j := 2) rfl) HBk.out⟩
        have HS0 : Hid (∀ z, Kp (fun _ => False) wc z → Kp (SW6 sh mp g m gf d) wc z ∧ z.cell? ⟨tb, 0, none⟩ = some (.int .i64 1) ∧ z.cell? ⟨tb, 1, none⟩ = some (.int .i64 (bl : Int)) ∧ z.cell? ⟨tb, 2, none⟩ = some (.int .i64 (ix : Int))) := fun z k => HS1.out z (k.mono (fun _ _ e => e.elim))
        have HSt : Hid (∀ z z2, Kp (fun _ => False) wc z → Kp (SW6 sh mp g m gf d) z z2 → Kp (SW6 sh mp g m gf d) wc z2 ∧ z2.cell? ⟨tb, 0, none⟩ = some (.int .i64 1) ∧ z2.cell? ⟨tb, 1, none⟩ = some (.int .i64 (bl : Int)) ∧ z2.cell? ⟨tb, 2, none⟩ = some (.int .i64 (ix : Int))) := fun z z2 k k2 => HS1.out z2 ((k.mono (fun _ _ e => e.elim)).trans k2 (fun _ _ e => e))
        have HWc : Hid (∀ (u u2 : World) (v : Value), Kp (fun _ => False) wc u → Kp (fun _ => False) u u2 → Ow u2 u.heap.size v xs → Calls Tryz.prog 45 #[.pointer (some ⟨sh, 0, none⟩), .agg #[.int .i64 1, .int .i64 (bl : Int), .int .i64 (ix : Int), .int .i64 0, v]] u2 fun e9 w' => e9 = .returned (.int .i64 0) ∧ Kp (SW6 sh mp g m gf d) u2 w' ∧ Wrd w' w.heap.size sh mp g bp d m gf s b N h ⟨1, bl, ix, 0, xs⟩) := fun u u2 v k1 k2 ov => HWr.out u u2 v (HKc0.out.trans k1 (fun _ _ e => e)) k2 ov
        have kd : Kp (fun _ => False) wc wc.drew := (Kp.refl _ _).drew
        have HTr : Hid (∀ u u' : World, Kp (fun _ => False) wc u → Kp (fun _ => False) u u' → Kp (fun _ => False) wc u') := fun u u' h1 h2 => h1.trans h2 (fun _ _ e => e)
        clear HWr HS1
        go_upto_region 11 with fail
        go_region_held3 (fun z => Kp (SW6 sh mp g m gf d) wc z ∧ z.cell? ⟨tb, 0, none⟩ = some (.int .i64 1) ∧ z.cell? ⟨tb, 1, none⟩ = some (.int .i64 (bl : Int)) ∧ z.cell? ⟨tb, 2, none⟩ = some (.int .i64 (ix : Int)))
          (first
            | exact HS0.out _ kd
            | exact HS0.out _ kw1
            | exact HSt.out _ _ kw1 k8)
          (first
            | (go_at_call 13; refine (HCl.out _ kd).mono ?_; rintro e9 w7 ⟨v7, rfl, k7, o7⟩; obtain ⟨q7, c7, hv7, hc7, hr7, hb7⟩ := o7.rb HXb.out; subst hv7; clear hc7 hr7 hb7; have kw1 := HTr.out _ _ kd k7)
            | (go_at_call 45; refine (HWc.out _ _ _ kd k7 o7).mono ?_; rintro e9 w8 ⟨rfl, k8, s8⟩))
        all_goals
          have HF : Hid (Kp (SW6 sh mp g m gf d) w w8 ∧ Wrd w8 w.heap.size sh mp g bp d m gf s b N h ⟨1, bl, ix, 0, xs⟩) := ⟨(((HK0.out.trans HKc0.out (fun _ _ e => e)).trans kw1 (fun _ _ e => e)).mono (fun _ _ e => e.elim)).trans k8 (fun _ _ e => e), s8⟩
          clear HS0 HSt HWc HCl HTr kd kw1 k7 o7 k8 s8
          go_simp
          go_wp2_with fail
          go_ret
          exact Or.inr (Or.inl ⟨HL.out, HN.out, rfl, HF.out⟩)
      · have HO : Hid ((stS h).1 ⟨1, (bl : Int), (ix : Int)⟩ = some o) := ho
        have HEq : Hid (Calls Tryz.prog 20 #[.slice qq o.b.length cc, .slice p n cp] wc fun e w' => e = .returned (.bool (decide (o.b = xs))) ∧ w' = wc) := equal_any cc cp wc (hrb.keep0 HKc0.out) (HB0.out.keep0 HKc0.out)
        have v4 : wc.cell? ⟨q, 4, none⟩ = some (.slice qq o.b.length cc) := HLc.out.cell (j := 4) rfl
        clear ho hrb hgo HM HWr
        by_cases hEq : o.b = xs
        · have HE : Hid (o.b = xs) := hEq
          have hdE : decide (o.b = xs) = true := decide_eq_true hEq
          rw [hdE] at HEq
          clear hEq hdE
          go_wp2_with fail
          refine HEq.out.mono ?_
          rintro e9 w9 ⟨rfl, hw9⟩
          have hw8 := hw9.symm
          subst hw8
          clear hw9 HEq
          go_wp2_with fail
          go_ret
          exact Or.inr (Or.inr ⟨HL.out, o, HO.out, by rw [if_pos HE.out]; rfl, HK0.out.trans HKc0.out (fun _ _ e => e)⟩)
        · have HE : Hid (¬ o.b = xs) := hEq
          have hdE : decide (o.b = xs) = false := decide_eq_false hEq
          rw [hdE] at HEq
          clear hEq hdE
          go_wp2_with fail
          refine HEq.out.mono ?_
          rintro e9 w9 ⟨rfl, hw9⟩
          have hw8 := hw9.symm
          subst hw8
          clear hw9 HEq
          go_wp2_with fail
          go_ret
          exact Or.inr (Or.inr ⟨HL.out, o, HO.out, by rw [if_neg HE.out]; rfl, HK0.out.trans HKc0.out (fun _ _ e => e)⟩)

end
end Go.Proofs.YtmooddbhcccicaaGreatDoor
