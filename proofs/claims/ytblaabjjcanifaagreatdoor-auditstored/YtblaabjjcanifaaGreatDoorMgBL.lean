/- Texts of this proof, joined: Im, Jra. -/
import Derived.Test.YtblaabjjcanifaaGreatDoorMgBK
import Derived.Deep.DeepCutAuto
/- A shelf: Store. -/
namespace Go.Proofs.YtblaabjjcanifaaGreatDoor
set_option linter.unusedVariables false
set_option linter.unusedSimpArgs false
open Go.RowKit Go.Deep Go.Maps

section
variable {w : World} {Z : Nat → Prop} {sh mp g bp d m gf s a b c e y : Nat} {dur : List Nat} {h : List Rc}
set_option maxRecDepth 100000 in
set_option maxHeartbeats 3200000 in
theorem sstore_ok (x : Shf w Z sh mp g bp d m gf s a b c e y dur h) (bl ix ep : Nat) (hbl : bl ≤ 1152921504606846976) (hix : ix ≤ 1152921504606846976) (hep : ep ≤ 1152921504606846976) (p : Option Addr) (n cp : Nat) (xs : List Nat) (hr : Rb w p n xs) (hxn : n = xs.length) (hx1 : 1 ≤ n ∧ n ≤ 1980) (hxb : ∀ v ∈ xs, v < 256)
    (hZ : ∀ v, w.heap.size ≤ v → Z v) (hn : h.length + 1 ≤ 1000) (hroom : 2 * (secS ⟨1, bl, ix, 0, xs⟩ : Int) + (stS h).2 + (totW (h.map wrS) : Int) ≤ (s : Int)) (hfit : totW (h.map wrS) + secS ⟨1, bl, ix, 0, xs⟩ ≤ s) :
    Calls Tryz.prog 7 #[.pointer (some ⟨sh, 0, none⟩), .int .i64 (bl : Int), .int .i64 (ix : Int), .int .i64 (ep : Int), .slice p n cp] w fun e9 w' =>
      (ep < fncd h bl ix ∧ e9 = .returned (.int .i64 81) ∧ Kp (fun _ => False) w w') ∨
      (fncd h bl ix ≤ ep ∧ (stS h).1 ⟨1, (bl : Int), (ix : Int)⟩ = none ∧ e9 = .returned (.int .i64 0) ∧ Kp (SW sh mp g m gf) w w' ∧ Shf w' Z sh mp g bp d m gf s a b c e y dur (h ++ [⟨1, bl, ix, 0, xs⟩])) ∨
      (fncd h bl ix ≤ ep ∧ ∃ o, (stS h).1 ⟨1, (bl : Int), (ix : Int)⟩ = some o ∧ e9 = .returned (.int .i64 (if o.b = xs then 0 else 82)) ∧ Kp (fun _ => False) w w') := by
  obtain ⟨r0, hr0⟩ : ∃ r0, r0 = w.heap.size := ⟨_, rfl⟩
  obtain ⟨w0, hw0⟩ : ∃ y, y = w.alloc (.cells #[.int .i64 (bl : Int), .int .i64 (ix : Int), .int .i64 (ep : Int)] 3) := ⟨_, rfl⟩
  have HK0 : Hid (Kp (fun _ => False) w w0) := by rw [hw0]; exact (Kp.refl _ _).alloc _
  have HS0 : Hid (Shf w0 Z sh mp g bp d m gf s a b c e y dur h) := x.keep0 HK0.out
  have HA : Hid (Calls Tryz.prog 17 #[.pointer (some ⟨sh, 0, none⟩), .slice (some ⟨r0, 0, none⟩) 3 3] w0 fun e w' => e = .returned (.int .i64 0) ∧ w' = w0) := by
    have h1 := asked_ok (HS0.out.sk.l.cell (j := 0) rfl) (some ⟨r0, 0, none⟩) 3 3 [(bl : Int), (ix : Int), (ep : Int)] (by rw [hw0, hr0]; exact rz3 w _ _ _ _) rfl (by omega)
    rw [upTo3 hbl hix hep] at h1
    exact h1
  have HFe : Hid (Calls _ _ _ w0 _) := fenced_ok HS0.out.sk bl ix hbl hix
  obtain ⟨F, hF⟩ : ∃ F, F = fncd h bl ix := ⟨_, rfl⟩
  rw [← hF] at HFe ⊢
  have hwf : wf3 ⟨1, (bl : Int), (ix : Int)⟩ := ⟨wf_n60 (n := 1) (by omega), wf_n60 hbl, wf_n60 hix⟩
  obtain ⟨a1, a2, a3, a4, qq, nn, cc, ok, hlk, hM⟩ := HS0.out.sk.look _ hwf
  have hlk0 : (Instr.lookup 48 (.map (some mp)) (.agg #[.int .i64 1, .int .i64 (bl : Int), .int .i64 (ix : Int)]) true).run Tryz.prog w0 = .ok (.tuple #[.agg #[.int .i64 a1, .int .i64 a2, .int .i64 a3, .int .i64 a4, .slice qq nn cc], .bool ok]) w0 := hlk w0 (Kp.refl _ _)
  have HM : Hid ((ok = false ∧ (stS h).1 ⟨1, (bl : Int), (ix : Int)⟩ = none) ∨ (ok = true ∧ ∃ o, (stS h).1 ⟨1, (bl : Int), (ix : Int)⟩ = some o ∧ nn = o.b.length ∧ Rb w0 qq o.b.length o.b ∧ GoodR o)) := by
    rcases hM with hM | ⟨h1, o, h2, _, _, _, _, h3, h4, h5, _⟩
    · exact Or.inl hM
    · exact Or.inr ⟨h1, o, h2, h3, h4, h5⟩
  have c1 : w0.cell? ⟨sh, 1, none⟩ = some (.map (some mp)) := HS0.out.sk.l.cell (j := 1) rfl
  have HF1 : Hid (F = fncd h bl ix) := hF
  have HLk : Hid (∀ z, Kp (fun _ => False) w0 z → (Instr.lookup 48 (.map (some mp)) (.agg #[.int .i64 1, .int .i64 (bl : Int), .int .i64 (ix : Int)]) true).run Tryz.prog z = .ok (.tuple #[.agg #[.int .i64 a1, .int .i64 a2, .int .i64 a3, .int .i64 a4, .slice qq nn cc], .bool ok]) z) := hlk
  have HB0 : Hid (Rb w0 p n xs) := hr.keep0 HK0.out
  have HX : Hid (n = xs.length ∧ 1 ≤ n ∧ n ≤ 1980) := ⟨hxn, hx1⟩
  have HWr : Hid (∀ (u u2 : World) (v : Value), Kp (fun _ => False) w0 u → Kp (fun _ => False) u u2 → Ow u2 u.heap.size v xs → Calls Tryz.prog 19 #[.pointer (some ⟨sh, 0, none⟩), .agg #[.int .i64 1, .int .i64 (bl : Int), .int .i64 (ix : Int), .int .i64 0, v]] u2 fun e9 w' => e9 = .returned (.int .i64 0) ∧ Kp (SW sh mp g m gf) u2 w' ∧ Shf w' Z sh mp g bp d m gf s a b c e y dur (h ++ [⟨1, bl, ix, 0, xs⟩])) := fun u u2 v k1 k2 ov => by
    obtain ⟨q9, c9, rfl, hc9, hr9, hb9⟩ := ov.rb hxb
    have hbl9 : xs.length ≤ 1980 := by omega
    exact ((HS0.out.keep0 k1).keep0 k2).write ⟨1, bl, ix, 0, xs⟩ q9 c9 hr9 ⟨⟨show 1 ≤ 1 by omega, show 1 ≤ 4 by omega⟩, hbl, hix, show 0 ≤ 1152921504606846976 by omega, hxb, hbl9, fun e => by rcases e with e | e <;> cases e⟩ hn (fun z hz => hZ _ (by
      have := (hb9 z hz).1
      have h1 := HK0.out.size
      have h2 := k1.size
      omega)) hroom hfit
  have HSB : Hid (sh < w0.heap.size ∧ mp < w0.heap.size ∧ g < w0.heap.size ∧ m < w0.heap.size ∧ gf < w0.heap.size) := by
    obtain ⟨q9, lt9, T9, l9⟩ := HS0.out.lg
    have h1 := l9.blk
    have h2 := HS0.out.sk.l.lt (by simp)
    have h3 : mp < w0.heap.size := by obtain ⟨c9, T8, _, h2, _⟩ := HS0.out.sk.m; exact h2.lt
    exact ⟨h2, h3, h1.1, h1.2.2.2.1, h1.2.2.2.2⟩
  have HXb : Hid (∀ v ∈ xs, v < 256) := hxb
  have hn1 : ¬ ((n : Int) < 1) := by omega
  have hn2 : ¬ ((1980 : Int) < (n : Int)) := by omega
  clear x hbl hix hep hwf hlk hlk0 hM hF HS0 hr hxn hx1 hxb hZ hn hroom hfit
  go_enter Tryz.func7, Tryz.ntmps7
  go_wp2_with fail
  rw [← hw0, ← hr0]
  clear hw0 hr0
  refine HA.out.mono ?_
  rintro e9 w9 ⟨rfl, hw9⟩
  have hw8 := hw9.symm
  subst hw8
  clear hw9 HA
  go_wp2_with fail
  refine HFe.out.mono ?_
  rintro e9 w9 ⟨rfl, hw9⟩
  have hw8 := hw9.symm
  subst hw8
  clear hw9 HFe
  by_cases hlt : (ep : Int) < (F : Int)
  · have HL : Hid (ep < F) := by show _ < _; omega
    clear HM HWr
    go_wp2_with fail
    go_ret
    exact Or.inl ⟨HL.out, rfl, HK0.out⟩
  · have HL : Hid (F ≤ ep) := by show _ ≤ _; omega
    obtain ⟨tb, htb⟩ : ∃ tb, tb = w0.heap.size := ⟨_, rfl⟩
    obtain ⟨w1, hw1⟩ : ∃ y, y = w0.alloc (.cells #[.int .i64 1, .int .i64 (bl : Int), .int .i64 (ix : Int)] 60) := ⟨_, rfl⟩
    have HK1 : Hid (Kp (fun _ => False) w0 w1) := by rw [hw1]; exact (Kp.refl _ _).alloc _
    have HT1 : Hid (Lv w1 tb [.int .i64 1, .int .i64 (bl : Int), .int .i64 (ix : Int)]) := by rw [hw1, htb]; exact Lv.new _ _ _
    have HTb : Hid (tb = w0.heap.size) := htb
    go_upto_region 9 with fail
    rw [← hw1, ← htb]
    clear hw1 htb
    have HSl : Hid (∀ z, Kp (fun _ => False) w1 z → Kp (fun _ => False) w1 z ∧ z.cell? ⟨sh, 1, none⟩ = some (.map (some mp)) ∧ z.cell? ⟨tb, 0, none⟩ = some (.int .i64 1) ∧ z.cell? ⟨tb, 1, none⟩ = some (.int .i64 (bl : Int)) ∧ z.cell? ⟨tb, 2, none⟩ = some (.int .i64 (ix : Int)) ∧ (Instr.lookup 48 (.map (some mp)) (.agg #[.int .i64 1, .int .i64 (bl : Int), .int .i64 (ix : Int)]) true).run Tryz.prog z = .ok (.tuple #[.agg #[.int .i64 a1, .int .i64 a2, .int .i64 a3, .int .i64 a4, .slice qq nn cc], .bool ok]) z) := fun z k => ⟨k, (HK1.out.trans k (fun _ _ e => e)).cellv c1 id, k.cellv (HT1.out.cell (j := 0) rfl) id, k.cellv (HT1.out.cell (j := 1) rfl) id, k.cellv (HT1.out.cell (j := 2) rfl) id, HLk.out z (HK1.out.trans k (fun _ _ e => e))⟩
    go_cut [13, 14] (fun v6 v7 wz => ∃ q, v6 = .pointer (some ⟨q, 0, none⟩) ∧ v7 = .bool ok ∧ Hid (Kp (fun _ => False) w1 wz) ∧ Hid (Lv wz q [.int .i64 a1, .int .i64 a2, .int .i64 a3, .int .i64 a4, .slice qq nn cc]))
    case first =>
      clear HM HWr c1
      have kd : Kp (fun _ => False) w1 w1.drew := (Kp.refl _ _).drew
      have kda : ∀ o : Obj, Kp (fun _ => False) w1 (w1.drew.alloc o) := fun o => (Kp.refl _ _).drew.alloc o
      go_region_held3 (fun z => Kp (fun _ => False) w1 z ∧ z.cell? ⟨sh, 1, none⟩ = some (.map (some mp)) ∧ z.cell? ⟨tb, 0, none⟩ = some (.int .i64 1) ∧ z.cell? ⟨tb, 1, none⟩ = some (.int .i64 (bl : Int)) ∧ z.cell? ⟨tb, 2, none⟩ = some (.int .i64 (ix : Int)) ∧ (Instr.lookup 48 (.map (some mp)) (.agg #[.int .i64 1, .int .i64 (bl : Int), .int .i64 (ix : Int)]) true).run Tryz.prog z = .ok (.tuple #[.agg #[.int .i64 a1, .int .i64 a2, .int .i64 a3, .int .i64 a4, .slice qq nn cc], .bool ok]) z)
        (first
          | exact HSl.out _ kd
          | exact HSl.out _ (kda _))
        (fail)
      all_goals
        go_simp
        go_wp2_with fail
        go_meet
        first
          | exact ⟨_, rfl, rfl, kda _, Lv.new _ _ _⟩
          | exact ⟨_, rfl, rfl, ((Kp.refl _ _).alloc _).drew, (Lv.new _ _ _).keep (S := fun _ => False) ((Kp.refl _ _).drew) id⟩
          | trace_state
    case rest =>
      obtain ⟨q, rfl, rfl, HKc, HLc⟩ := hcut
      have HKc0 : Hid (Kp (fun _ => False) w0 wc) := HK1.out.trans HKc.out (fun _ _ e => e)
      have HTc : Hid (Lv wc tb [.int .i64 1, .int .i64 (bl : Int), .int .i64 (ix : Int)]) := HT1.out.keep HKc.out id
      clear HSl c1 HLk
      rcases HM.out with ⟨rfl, hno⟩ | ⟨rfl, o, ho, rfl, hrb, hgo⟩
      · have HN : Hid ((stS h).1 ⟨1, (bl : Int), (ix : Int)⟩ = none) := hno
        clear hno HM
        have HCl : Hid (∀ u, Kp (fun _ => False) wc u → Calls Tryz.prog 4 #[.slice p n cp] u fun e w' => ∃ v, e = .returned v ∧ Kp (fun _ => False) u w' ∧ Ow w' u.heap.size v xs) := fun u ku => clone_any p n cp xs u (HB0.out.keep0 (HKc0.out.trans ku (fun _ _ e => e))) (by have := HX.out; show _ ≤ _; omega)
        have HBk : Hid (¬ SW sh mp g m gf tb) := by
          have h1 := HSB.out
          have h2 := HTb.out
          show ¬ (tb = m ∨ tb = g ∨ tb = gf ∨ tb = sh ∨ tb = mp)
          omega
        have HS1 : Hid (∀ z, Kp (SW sh mp g m gf) wc z → Kp (SW sh mp g m gf) wc z ∧ z.cell? ⟨tb, 0, none⟩ = some (.int .i64 1) ∧ z.cell? ⟨tb, 1, none⟩ = some (.int .i64 (bl : Int)) ∧ z.cell? ⟨tb, 2, none⟩ = some (.int .i64 (ix : Int))) := fun z k => ⟨k, k.cellv (HTc.out.cell (j := 0) rfl) HBk.out, k.cellv (HTc.out.cell (j := 1) rfl) HBk.out, k.cellv (HTc.out.cell (j := 2) rfl) HBk.out⟩
        have HS0 : Hid (∀ z, Kp (fun _ => False) wc z → Kp (SW sh mp g m gf) wc z ∧ z.cell? ⟨tb, 0, none⟩ = some (.int .i64 1) ∧ z.cell? ⟨tb, 1, none⟩ = some (.int .i64 (bl : Int)) ∧ z.cell? ⟨tb, 2, none⟩ = some (.int .i64 (ix : Int))) := fun z k => HS1.out z (k.mono (fun _ _ e => e.elim))
        have HSt : Hid (∀ z z2, Kp (fun _ => False) wc z → Kp (SW sh mp g m gf) z z2 → Kp (SW sh mp g m gf) wc z2 ∧ z2.cell? ⟨tb, 0, none⟩ = some (.int .i64 1) ∧ z2.cell? ⟨tb, 1, none⟩ = some (.int .i64 (bl : Int)) ∧ z2.cell? ⟨tb, 2, none⟩ = some (.int .i64 (ix : Int))) := fun z z2 k k2 => HS1.out z2 ((k.mono (fun _ _ e => e.elim)).trans k2 (fun _ _ e => e))
        have HWc : Hid (∀ (u u2 : World) (v : Value), Kp (fun _ => False) wc u → Kp (fun _ => False) u u2 → Ow u2 u.heap.size v xs → Calls Tryz.prog 19 #[.pointer (some ⟨sh, 0, none⟩), .agg #[.int .i64 1, .int .i64 (bl : Int), .int .i64 (ix : Int), .int .i64 0, v]] u2 fun e9 w' => e9 = .returned (.int .i64 0) ∧ Kp (SW sh mp g m gf) u2 w' ∧ Shf w' Z sh mp g bp d m gf s a b c e y dur (h ++ [⟨1, bl, ix, 0, xs⟩])) := fun u u2 v k1 k2 ov => HWr.out u u2 v (HKc0.out.trans k1 (fun _ _ e => e)) k2 ov
        have kd : Kp (fun _ => False) wc wc.drew := (Kp.refl _ _).drew
        have HTr : Hid (∀ u u' : World, Kp (fun _ => False) wc u → Kp (fun _ => False) u u' → Kp (fun _ => False) wc u') := fun u u' h1 h2 => h1.trans h2 (fun _ _ e => e)
        clear HWr HS1
        go_upto_region 11 with fail
        go_region_held3 (fun z => Kp (SW sh mp g m gf) wc z ∧ z.cell? ⟨tb, 0, none⟩ = some (.int .i64 1) ∧ z.cell? ⟨tb, 1, none⟩ = some (.int .i64 (bl : Int)) ∧ z.cell? ⟨tb, 2, none⟩ = some (.int .i64 (ix : Int)))
          (first
            | exact HS0.out _ kd
            | exact HS0.out _ kw1
            | exact HSt.out _ _ kw1 k8)
          (first
            | (go_at_call 4; refine (HCl.out _ kd).mono ?_; rintro e9 w7 ⟨v7, rfl, k7, o7⟩; obtain ⟨q7, c7, hv7, hc7, hr7, hb7⟩ := o7.rb HXb.out; subst hv7; clear hc7 hr7 hb7; have kw1 := HTr.out _ _ kd k7)
            | (go_at_call 19; refine (HWc.out _ _ _ kd k7 o7).mono ?_; rintro e9 w8 ⟨rfl, k8, s8⟩))
        all_goals
          have HF : Hid (Kp (SW sh mp g m gf) w w8 ∧ Shf w8 Z sh mp g bp d m gf s a b c e y dur (h ++ [⟨1, bl, ix, 0, xs⟩])) := ⟨(((HK0.out.trans HKc0.out (fun _ _ e => e)).trans kw1 (fun _ _ e => e)).mono (fun _ _ e => e.elim)).trans k8 (fun _ _ e => e), s8⟩
          clear HS0 HSt HWc HCl HTr kd kw1 k7 o7 k8 s8
          go_simp
          go_wp2_with fail
          go_ret
          exact Or.inr (Or.inl ⟨HL.out, HN.out, rfl, HF.out⟩)
      · have HO : Hid ((stS h).1 ⟨1, (bl : Int), (ix : Int)⟩ = some o) := ho
        have HEq : Hid (Calls Tryz.prog 20 #[.slice qq o.b.length cc, .slice p n cp] wc fun e w' => e = .returned (.bool (decide (o.b = xs))) ∧ w' = wc) := equal_any cc cp wc (hrb.keep0 HKc0.out) (HB0.out.keep0 HKc0.out)
        have v4 : wc.cell? ⟨q, 4, none⟩ = some (.slice qq o.b.length cc) := HLc.out.cell (j := 4) rfl
        clear ho hrb hgo HM HWr
        by_cases hEq : o.b = xs
        · have HE : Hid (o.b = xs) := hEq
          have hdE : decide (o.b = xs) = true := decide_eq_true hEq
          rw [hdE] at HEq
          clear hEq hdE
          go_wp2_with fail
          refine HEq.out.mono ?_
          rintro e9 w9 ⟨rfl, hw9⟩
          have hw8 := hw9.symm
          subst hw8
          clear hw9 HEq
          go_wp2_with fail
          go_ret
          exact Or.inr (Or.inr ⟨HL.out, o, HO.out, by rw [if_pos HE.out]; rfl, HK0.out.trans HKc0.out (fun _ _ e => e)⟩)
        · have HE : Hid (¬ o.b = xs) := hEq
          have hdE : decide (o.b = xs) = false := decide_eq_false hEq
          rw [hdE] at HEq
          clear hEq hdE
          go_wp2_with fail
          refine HEq.out.mono ?_
          rintro e9 w9 ⟨rfl, hw9⟩
          have hw8 := hw9.symm
          subst hw8
          clear hw9 HEq
          go_wp2_with fail
          go_ret
          exact Or.inr (Or.inr ⟨HL.out, o, HO.out, by rw [if_neg HE.out]; rfl, HK0.out.trans HKc0.out (fun _ _ e => e)⟩)

end
end Go.Proofs.YtblaabjjcanifaaGreatDoor

/- A shelf's cursor: next, number, of what is there. -/
namespace Go.Proofs.YtblaabjjcanifaaGreatDoor
set_option linter.unusedVariables false
set_option linter.unusedSimpArgs false
open Go.RowKit Go.Deep Go.Maps

/-- a cursor in memory, at block r, with bytes xs left -/
def Cq (Z : Nat → Prop) (w : World) (r : Nat) (xs : List Nat) : Prop := ∃ q c, Lv w r [.slice q xs.length c] ∧ xs.length ≤ c ∧ Rb w q xs.length xs ∧ ∀ a, q = some a → 0 < xs.length → Z a.block ∧ a.block ≠ r
theorem Cq.keep {S Z : Nat → Prop} {w w' : World} {r : Nat} {xs : List Nat} (h : Cq Z w r xs) (k : Kp S w w') (hr : ¬ S r) (hS : ∀ b, Z b → ¬ S b) : Cq Z w' r xs := by
  obtain ⟨q, c, h1, h2, h3, h4⟩ := h
  refine ⟨q, c, h1.keep k hr, h2, ?_, h4⟩
  by_cases h0 : 0 < xs.length
  · exact h3.keep k (fun a ha _ => hS _ (h4 a ha h0).1)
  · have : xs = [] := List.eq_nil_of_length_eq_zero (by omega)
    subst this
    exact ⟨rfl, h3.byte, fun j hj => absurd hj (Nat.not_lt_zero _)⟩
theorem Cq.keep0 {Z : Nat → Prop} {w w' : World} {r : Nat} {xs : List Nat} (h : Cq Z w r xs) (k : Kp (fun _ => False) w w') : Cq Z w' r xs := h.keep k id (fun _ _ e => e)

theorem slice_rest (p : Option Addr) (n c : Nat) (hc : n ≤ c) (h1 : 1 ≤ n) (w : World) :
    (Instr.sliceAt 22 (.slice p n c) (some (.int .i64 1)) none none).run Tryz.prog w = .ok (.slice (if c = 1 then p else p.map (·.add (1 * 1))) (n - 1) (c - 1)) w := by
  have h : (Instr.slice 22 (.slice p n c) (some (.int .i64 1)) none none).run Tryz.prog w = .ok (.slice (if c = 1 then p else p.map (·.add (1 * 1))) (n - 1) (c - 1)) w := by
    obtain ⟨i, hi, hz⟩ := Option.map_eq_some_iff.1 info5
    simp only [Prod.mk.injEq] at hz
    obtain ⟨hz, hs, hb⟩ := hz
    have h2 : (n : Int) ≤ (c : Int) := by omega
    have h3 : (1 : Int) ≤ (n : Int) := by omega
    have h4 : ¬ n < 1 := by omega
    simp [Instr.slice, Instr.sliceBounds, Instr.sliceBound, asIntOf, run_underlying Tryz.underlying22, sizeOf, typeInfo, hi, hs, h2, h3, hc, h1, h4]
  simp [Instr.sliceAt, run_underlying Tryz.underlying22, h]

set_option maxRecDepth 100000 in
set_option maxHeartbeats 1600000 in
theorem cnext_ok {Z : Nat → Prop} {w : World} {r x : Nat} {t : List Nat} (h : Cq Z w r (x :: t)) :
    Calls Tryz.prog 54 #[.pointer (some ⟨r, 0, none⟩)] w fun e w' => e = .returned (.int .u8 (x : Int)) ∧ Kp (fun b => b = r) w w' ∧ Cq Z w' r t := by
  obtain ⟨q, c, h1, h2, h3, h4⟩ := h
  obtain ⟨b, o, rfl, hb⟩ := h3.pt (show 0 < (x :: t).length by simp)
  have c0 : w.cell? ⟨r, 0, none⟩ = some (.slice (some ⟨b, o, none⟩) (x :: t).length c) := h1.cell (j := 0) rfl
  have f0 : w.frozen? ⟨r, 0, none⟩ = false := h1.fz (j := 0) (by simp)
  have b0 : w.cell? ⟨b, o, none⟩ = some (.int .u8 (x : Int)) := hb 0 (by simp)
  obtain ⟨n, hn⟩ : ∃ n, n = (x :: t).length := ⟨_, rfl⟩
  have hn1 : n = t.length + 1 := by rw [hn]; rfl
  rw [← hn] at c0 h2
  obtain ⟨q2, hq2⟩ : ∃ q2, q2 = (if c = 1 then (some ⟨b, o, none⟩ : Option Addr) else (some ⟨b, o, none⟩ : Option Addr).map (·.add (1 * 1))) := ⟨_, rfl⟩
  have hsl : ∀ z, (Instr.sliceAt 22 (.slice (some ⟨b, o, none⟩) n c) (some (.int .i64 1)) none none).run Tryz.prog z = .ok (.slice q2 (n - 1) (c - 1)) z := fun z => by rw [hq2]; exact slice_rest _ n c h2 (by omega) z
  have HF : Hid (Kp (fun b => b = r) w (w.setCell ⟨r, 0, none⟩ (.slice q2 (n - 1) (c - 1))) ∧ Cq Z (w.setCell ⟨r, 0, none⟩ (.slice q2 (n - 1) (c - 1))) r t) := by
    have k1 : Kp (fun b => b = r) w (w.setCell ⟨r, 0, none⟩ (.slice q2 (n - 1) (c - 1))) := by show Kp _ _ _; exact (Kp.refl (fun b => b = r) w).setCell (fun _ => rfl) _
    have hp := h3.part (by rw [← hn]; exact h2) (l := 1) (r := (x :: t).length) (by simp) (Nat.le_refl _)
    rw [List.take_length, ← hq2] at hp
    have hbr : b ≠ r := (h4 ⟨b, o, none⟩ rfl (by simp)).2
    have hbz : Z b := (h4 ⟨b, o, none⟩ rfl (by simp)).1
    have hqb : ∀ a, q2 = some a → a.block = b := fun a ha => by
      rw [hq2] at ha
      by_cases e : c = 1
      · rw [if_pos e] at ha
        cases ha
        rfl
      · rw [if_neg e] at ha
        have e2 := Option.some.inj ha
        rw [← e2]
        rfl
    have hl : n - 1 = t.length := by omega
    refine ⟨k1, q2, c - 1, ?_, by omega, ?_, fun a ha _ => by rw [hqb a ha]; exact ⟨hbz, hbr⟩⟩
    · rw [← hl]; exact h1.set1 0 _ (by simp)
    · rw [← hl]
      have hp2 : Rb w q2 (n - 1) t := by rw [hn]; exact hp
      exact hp2.keep k1 (fun a ha _ e => hbr (by rw [← hqb a ha]; exact e))
  have hne : ¬ (n : Int) = 0 := by omega
  have hpos : (0 : Int) < (n : Int) := by omega
  clear h1 h2 h3 h4 hb hn hn1 hq2
  go_enter Tryz.func54, Tryz.ntmps54
  go_wp2
  go_ret
  exact ⟨rfl, HF.out⟩

set_option maxRecDepth 100000 in
set_option maxHeartbeats 1600000 in
theorem cnumber_ok {Z : Nat → Prop} {w : World} {r n : Nat} {t : List Nat} (hn : n ≤ 1152921504606846976) (h : Cq Z w r (numB n ++ t)) :
    Calls Tryz.prog 55 #[.pointer (some ⟨r, 0, none⟩)] w fun e w' => e = .returned (.int .i64 (n : Int)) ∧ Kp (fun b => b = r) w w' ∧ Cq Z w' r t := by
  have h8 : numW n ≤ 8 := numW_le (show n < 256 ^ 8 by have : (256 : Nat) ^ 8 = 18446744073709551616 := rfl; omega)
  have HN : Hid (n ≤ 1152921504606846976 ∧ n / 256 ^ numW n = 0) := ⟨hn, Nat.div_eq_of_lt (numW_lt n)⟩
  obtain ⟨K, hK⟩ : ∃ K, K = numW n := ⟨_, rfl⟩
  have HNx : Hid (Calls _ _ _ w _) := cnext_ok (x := numW n) (t := digs (numW n) n ++ t) h
  rw [← hK] at HNx HN h8
  have HK8 : Hid (K ≤ 8) := h8
  clear hK h hn h8
  go_enter Tryz.func55, Tryz.ntmps55
  go_wp2_with fail
  refine HNx.out.mono ?_
  rintro e9 w1 ⟨rfl, k1, q1⟩
  have HQ1 : Hid (Kp (fun b => b = r) w w1 ∧ Cq Z w1 r (digs K n ++ t)) := ⟨k1, q1⟩
  clear k1 q1 HNx
  go_wp2_with fail
  go_loopg [3, 6] K (fun gk av iv wr => ∃ (j a : Nat), j ≤ K ∧ gk = K - j ∧ av = .int .u64 (a : Int) ∧ iv = .int .u8 (j : Int) ∧ Hid (a = n / 256 ^ (K - j) ∧ Kp (fun b => b = r) w wr ∧ Cq Z wr r (digs (K - j) n ++ t)))
  case atStart => exact ⟨0, 0, Nat.zero_le _, rfl, rfl, rfl, HN.out.2.symm, HQ1.out.1, HQ1.out.2⟩
  case round =>
    obtain ⟨j, a, hj, rfl, rfl, rfl, HK⟩ := hrel
    by_cases hlt : j < K
    · have hlt2 : (j : Int) < (K : Int) := by omega
      obtain ⟨m, hm⟩ : ∃ m, K - j = m + 1 := ⟨K - j - 1, by omega⟩
      have hq := HK.out.2.2
      rw [hm] at hq
      obtain ⟨x, hx⟩ : ∃ x, x = (n / 256 ^ m) % 256 := ⟨_, rfl⟩
      have HNx : Hid (Calls _ _ _ wr _) := cnext_ok (x := x) (t := digs m n ++ t) (by rw [hx]; exact hq)
      have ha : a < 256 ^ 7 := by
        have h1 := HK.out.1
        rw [hm] at h1
        rw [h1]
        have h2 := HN.out.1
        refine Nat.div_lt_of_lt_mul ?_
        have h3 : 256 ^ 1 ≤ 256 ^ (m + 1) := Nat.pow_le_pow_right (by decide) (by omega)
        have h4 : 256 ^ 1 * 256 ^ 7 ≤ 256 ^ (m + 1) * 256 ^ 7 := Nat.mul_le_mul_right _ h3
        have h5 : (256 : Nat) ^ 1 * 256 ^ 7 = 18446744073709551616 := rfl
        omega
      have hx8 : x < 256 := by rw [hx]; exact Nat.mod_lt _ (by decide)
      have hor := u64_or_shiftW a x ha hx8
      have hj1 : IntKind.u8.wrap ((j : Int) + 1) = ((j + 1 : Nat) : Int) := by
        have := HK8.out
        simp [IntKind.wrap, IntKind.bits, IntKind.signed]
        omega
      have hxu : IntKind.u64.wrap (x : Int) = (x : Int) := by
        simp [IntKind.wrap, IntKind.bits, IntKind.signed]
        omega
      have HNew : Hid (a * 256 + x = n / 256 ^ (K - (j + 1)) ∧ K - (j + 1) = m) := by
        have h1 := HK.out.1
        rw [hm, Nat.pow_succ, ← Nat.div_div_eq_div_mul] at h1
        have hm2 : K - (j + 1) = m := by omega
        refine ⟨?_, hm2⟩
        rw [hm2, h1, hx]
        omega
      clear hq hx ha hx8 hlt hm
      go_wp2_with fail
      refine HNx.out.mono ?_
      rintro e9 w2 ⟨rfl, k2, q2⟩
      have HF : Hid (Kp (fun b => b = r) w w2 ∧ Cq Z w2 r (digs m n ++ t)) := ⟨HK.out.2.1.trans k2 (fun _ _ e => e), q2⟩
      clear k2 q2 HNx
      go_wp2
      go_roundg (K - (j + 1))
      case rel => exact ⟨j + 1, a * 256 + x, by omega, rfl, by first | rw [hor] | simp, by first | rw [hj1] | simp, HNew.out.1, HF.out.1, by rw [HNew.out.2]; exact HF.out.2⟩
      case measure => omega
    · have hjK : j = K := by omega
      subst hjK
      have hlt2 : ¬ (j : Int) < (j : Int) := by omega
      have hf := HK.out
      rw [Nat.sub_self, Nat.pow_zero, Nat.div_one] at hf
      have ha : a = n := hf.1
      subst ha
      have hw : wrap64 (a : Int) = (a : Int) := by have := HN.out.1; unfold wrap64; omega
      have HF : Hid (Kp (fun b => b = r) w wr ∧ Cq Z wr r t) := ⟨hf.2.1, hf.2.2⟩
      clear hf HK
      go_wp2
      go_ret
      exact ⟨by first | rfl | rw [hw], HF.out⟩
end Go.Proofs.YtblaabjjcanifaaGreatDoor
