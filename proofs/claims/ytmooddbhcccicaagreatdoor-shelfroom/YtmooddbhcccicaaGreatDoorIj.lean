/- A shelf whole: its log and its stock; Fence. -/
import Derived.Test.YtmooddbhcccicaaGreatDoorIi
namespace Go.Proofs.YtmooddbhcccicaaGreatDoor
set_option linter.unusedVariables false
set_option linter.unusedSimpArgs false
open Go.RowKit Go.Deep Go.Maps

/-- what a call of a shelf may write -/
abbrev SW (sh mp g m gf : Nat) : Nat → Prop := fun x => x = m ∨ x = g ∨ x = gf ∨ x = sh ∨ x = mp
/-- a shelf, its log and its plate -/
structure Shf (w : World) (Z : Nat → Prop) (sh mp g bp d m gf s a b c e y : Nat) (dur : List Nat) (h : List Rc) : Prop where
  lg : ∃ q lt T, Lg w g bp d m gf s q a b c e lt y (h.map wrS) dur T
  sk : Sk w Z sh mp g h
  tu : Turns w
  ap : sh ≠ mp ∧ ¬ Z sh ∧ ¬ Z mp
  aq : ∀ x, (x = m ∨ x = g ∨ x = gf) → ¬ Z x ∧ x ≠ sh ∧ x ≠ mp
  ar : bp ≠ sh ∧ bp ≠ mp ∧ d ≠ sh ∧ d ≠ mp
  at_ : (0 : Nat) ≠ sh ∧ (0 : Nat) ≠ mp
section
variable {w : World} {Z : Nat → Prop} {sh mp g bp d m gf s a b c e y : Nat} {dur : List Nat} {h : List Rc}
theorem Shf.keep0 (x : Shf w Z sh mp g bp d m gf s a b c e y dur h) {w' : World} (k : Kp (fun _ => False) w w') : Shf w' Z sh mp g bp d m gf s a b c e y dur h := by
  obtain ⟨q, lt, T, hl⟩ := x.lg
  exact ⟨⟨q, lt, T, hl.keep0 k⟩, x.sk.keep k (fun e => e) (fun e => e) (fun _ _ e => e), x.tu.keep0 k, x.ap, x.aq, x.ar, x.at_⟩
theorem Shf.write (x : Shf w Z sh mp g bp d m gf s a b c e y dur h) (r : Rc) (p : Option Addr) (cp : Nat) (hr : Rb w p r.b.length r.b) (hg : GoodR r) (hn : h.length + 1 ≤ 1000) (hz : ∀ a, p = some a → Z a.block)
    (hroom : 2 * (secS r : Int) + (stS h).2 + (totW (h.map wrS) : Int) ≤ (s : Int)) (hfit : totW (h.map wrS) + secS r ≤ s) :
    Calls Tryz.prog 45 #[.pointer (some ⟨sh, 0, none⟩), rcV r p cp] w fun e9 w' => e9 = .returned (.int .i64 0) ∧ Kp (SW sh mp g m gf) w w' ∧ Shf w' Z sh mp g bp d m gf s a b c e y dur (h ++ [r]) := by
  obtain ⟨q, lt, T, hl⟩ := x.lg
  have h1 := behS_le (stS h).1 (stS h).2 r
  refine (swrite_ok hl x.sk r p cp hr hg hn hz x.ap x.aq x.ar (by omega) hfit x.tu).mono ?_
  rintro e9 w' ⟨rfl, k, sk, q', T', hl'⟩
  refine ⟨rfl, k, ⟨q', _, T', hl'⟩, sk, x.tu.keep k (fun e => ?_), x.ap, x.aq, x.ar, x.at_⟩
  rcases e with e | e | e | e | e
  · exact hl.lp.tm e
  · exact hl.lp.tg e
  · exact hl.lp.tf e
  · exact x.at_.1 e
  · exact x.at_.2 e
theorem rb_nil0 {w : World} : Rb w none 0 [] := ⟨rfl, fun x hx => absurd hx List.not_mem_nil, fun j hj => absurd hj (Nat.not_lt_zero _)⟩
theorem rz3 (w : World) (x y z : Int) (t : TypeId) : Rz (w.alloc (.cells #[.int .i64 x, .int .i64 y, .int .i64 z] t)) (some ⟨w.heap.size, 0, none⟩) [x, y, z] := fun j hj => by
  have hl := Lv.new w #[.int .i64 x, .int .i64 y, .int .i64 z] t
  refine ⟨w.heap.size, 0, rfl, ?_⟩
  rw [Nat.zero_add]
  match j, hj with
  | 0, _ => exact hl.cell (j := 0) rfl
  | 1, _ => exact hl.cell (j := 1) rfl
  | 2, _ => exact hl.cell (j := 2) rfl
theorem upTo3 {x y z : Nat} (hx : x ≤ 1152921504606846976) (hy : y ≤ 1152921504606846976) (hz : z ≤ 1152921504606846976) : upTo 1152921504606846976 [(x : Int), (y : Int), (z : Int)] = true := by
  unfold upTo
  simp
  omega

set_option maxRecDepth 100000 in
set_option maxHeartbeats 3200000 in
theorem sfence_new (x : Shf w Z sh mp g bp d m gf s a b c e y dur h) (bl ix ep : Nat) (hbl : bl ≤ 1152921504606846976) (hix : ix ≤ 1152921504606846976) (hep : ep ≤ 1152921504606846976) (hf : fncd h bl ix < ep) (hn : h.length + 1 ≤ 1000)
    (hroom : 2 * (secS ⟨3, bl, ix, ep, []⟩ : Int) + (stS h).2 + (totW (h.map wrS) : Int) ≤ (s : Int)) (hfit : totW (h.map wrS) + secS ⟨3, bl, ix, ep, []⟩ ≤ s) :
    Calls Tryz.prog 15 #[.pointer (some ⟨sh, 0, none⟩), .int .i64 (bl : Int), .int .i64 (ix : Int), .int .i64 (ep : Int)] w fun e9 w' => e9 = .returned (.int .i64 0) ∧ Kp (SW sh mp g m gf) w w' ∧ Shf w' Z sh mp g bp d m gf s a b c e y dur (h ++ [⟨3, bl, ix, ep, []⟩]) := by
  obtain ⟨r0, hr0⟩ : ∃ r0, r0 = w.heap.size := ⟨_, rfl⟩
  obtain ⟨w0, hw0⟩ : ∃ y, y = w.alloc (.cells #[.int .i64 (bl : Int), .int .i64 (ix : Int), .int .i64 (ep : Int)] 3) := ⟨_, rfl⟩
  have HK0 : Hid (Kp (fun _ => False) w w0) := by rw [hw0]; exact (Kp.refl _ _).alloc _
  have HS0 : Hid (Shf w0 Z sh mp g bp d m gf s a b c e y dur h) := x.keep0 HK0.out
  have HA : Hid (Calls Tryz.prog 44 #[.pointer (some ⟨sh, 0, none⟩), .slice (some ⟨r0, 0, none⟩) 3 3] w0 fun e w' => e = .returned (.int .i64 0) ∧ w' = w0) := by
    have h1 := asked_ok (HS0.out.sk.l.cell (j := 0) rfl) (some ⟨r0, 0, none⟩) 3 3 [(bl : Int), (ix : Int), (ep : Int)] (by rw [hw0, hr0]; exact rz3 w _ _ _ _) rfl (by omega)
    rw [upTo3 hbl hix hep] at h1
    exact h1
  have HFe : Hid (Calls _ _ _ w0 _) := fenced_ok HS0.out.sk bl ix hbl hix
  obtain ⟨F, hF⟩ : ∃ F, F = fncd h bl ix := ⟨_, rfl⟩
  rw [← hF] at HFe hf
  have hlt : ¬ ((ep : Int) ≤ (F : Int)) := by omega
  have HWr : Hid (Calls Tryz.prog 45 #[.pointer (some ⟨sh, 0, none⟩), .agg #[.int .i64 3, .int .i64 (bl : Int), .int .i64 (ix : Int), .int .i64 (ep : Int), .slice none 0 0]] w0 fun e9 w' => e9 = .returned (.int .i64 0) ∧ Kp (SW sh mp g m gf) w0 w' ∧ Shf w' Z sh mp g bp d m gf s a b c e y dur (h ++ [⟨3, bl, ix, ep, []⟩])) :=
    HS0.out.write ⟨3, bl, ix, ep, []⟩ none 0 rb_nil0 ⟨⟨show 1 ≤ 3 by omega, show 3 ≤ 4 by omega⟩, hbl, hix, hep, fun x hx => absurd hx List.not_mem_nil, show 0 ≤ 1980 by omega, fun _ => rfl⟩ hn (fun a ha => absurd ha (by simp)) hroom hfit
  clear x hbl hix hep hf hn hroom hfit hF
  go_enter Tryz.func15, Tryz.ntmps15
  go_wp2_with fail
  rw [← hw0, ← hr0]
  clear hw0 hr0
  refine HA.out.mono ?_
  rintro e9 w9 ⟨rfl, hw9⟩
  have hw8 := hw9.symm
  subst hw8
  clear hw9 HA
  go_wp2_with fail
  refine HFe.out.mono ?_
  rintro e9 w9 ⟨rfl, hw9⟩
  have hw8 := hw9.symm
  subst hw8
  clear hw9 HFe
  go_wp2_with fail
  refine HWr.out.mono ?_
  rintro e9 w3 ⟨rfl, k3, s3⟩
  have HF : Hid (Kp (SW sh mp g m gf) w w3 ∧ Shf w3 Z sh mp g bp d m gf s a b c e y dur (h ++ [⟨3, bl, ix, ep, []⟩])) := ⟨(HK0.out.mono (fun _ _ e => e.elim)).trans k3 (fun _ _ e => e), s3⟩
  clear k3 s3 HWr
  go_wp2_with fail
  go_ret
  exact ⟨rfl, HF.out⟩
end
end Go.Proofs.YtmooddbhcccicaaGreatDoor
