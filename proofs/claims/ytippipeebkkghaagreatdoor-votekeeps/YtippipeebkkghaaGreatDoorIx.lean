/- A shelf's stock, all of it in order. -/
import Derived.Test.YtippipeebkkghaaGreatDoorIp
import Derived.Test.YtippipeebkkghaaGreatDoorIq
namespace Go.Proofs.YtippipeebkkghaaGreatDoor
set_option linter.unusedVariables false
set_option linter.unusedSimpArgs false
open Go.RowKit Go.Deep Go.Maps

instance : Nonempty G3 := ⟨⟨0, none, 0, 0⟩⟩

theorem stS_sub (h : List Rc) : ∀ (x : K3) (o : Rc), (stS h).1 x = some o → x = subS o ∧ staysS o = true := by
  suffices H : ∀ n, ∀ h : List Rc, h.length = n → ∀ (x : K3) (o : Rc), (stS h).1 x = some o → x = subS o ∧ staysS o = true from H _ h rfl
  intro n
  induction n with
  | zero =>
    intro h hl x o e
    rw [List.eq_nil_of_length_eq_zero hl, stS_nil] at e
    cases e
  | succ n ih =>
    intro h hl x o e
    obtain ⟨l, r, rfl⟩ : ∃ l r, h = l ++ [r] := ⟨h.dropLast, h.getLast (by intro e; subst e; simp at hl), (List.dropLast_concat_getLast _).symm⟩
    rw [stS_at] at e
    by_cases h1 : x = subS r
    · rw [if_pos h1] at e
      by_cases h2 : staysS r = true
      · rw [if_pos h2] at e
        cases e
        exact ⟨h1, h2⟩
      · rw [if_neg h2] at e; cases e
    · rw [if_neg h1] at e
      exact ih l (by simpa using hl) x o e

theorem sub_parts {o : Rc} (h : staysS o = true) : (subS o).k = (o.k : Int) ∧ (subS o).n = (o.n : Int) ∧ (subS o).i = (o.i : Int) := by
  unfold staysS at h
  have h2 : o.k ≠ 2 := by
    intro e
    simp [e] at h
  unfold subS
  rw [if_neg h2]
  exact ⟨rfl, rfl, rfl⟩

/-- what is told of a thing: its record in memory -/
def GofS (w : World) (Z : Nat → Prop) (h : List Rc) (G : K3 → G3) : Prop := ∀ x o, wf3 x → (stS h).1 x = some o → x.k = (o.k : Int) ∧ x.n = (o.n : Int) ∧ x.i = (o.i : Int) ∧ (G x).e = (o.e : Int) ∧ (G x).n = o.b.length ∧ Rb w (G x).p o.b.length o.b ∧ (∀ a, (G x).p = some a → Z a.block) ∧ GoodR o

theorem GofS.keep {w w' : World} {S Z : Nat → Prop} {h : List Rc} {G : K3 → G3} (x : GofS w Z h G) (k : Kp S w w') (hS : ∀ b, Z b → ¬ S b) : GofS w' Z h G := fun y o hw e => by
  obtain ⟨a1, a2, a3, a4, a5, a6, a7, a8⟩ := x y o hw e
  exact ⟨a1, a2, a3, a4, a5, a6.keep k (fun a ha _ => hS _ (a7 a ha)), a7, a8⟩

/-- the things that are there, in whatever order -/
def Ths (h : List Rc) (ss : List K3) : Prop := ss.Nodup ∧ ∀ x, x ∈ ss ↔ wf3 x ∧ ∃ o, (stS h).1 x = some o

theorem Ths.perm {h : List Rc} {a b : List K3} (ha : Ths h a) (hb : Ths h b) : a.Perm b := (List.perm_ext_iff_of_nodup ha.1 hb.1).2 fun x => (ha.2 x).trans (hb.2 x).symm

theorem Ths.len {w : World} {Z : Nat → Prop} {sh mp g : Nat} {h : List Rc} (x : Sk w Z sh mp g h) {ss : List K3} (hs : Ths h ss) : ss.length ≤ 1000 := by
  have h1 := len_sub ss (h.map subS) hs.1 (fun y hy => by
    obtain ⟨_, o, ho⟩ := (hs.2 y).1 hy
    rw [(stS_sub h y o ho).1]
    exact List.mem_map_of_mem ((stS_bd x.g x.n).2.2 y o ho))
  rw [List.length_map] at h1
  exact Nat.le_trans h1 x.n

set_option maxRecDepth 100000 in
set_option maxHeartbeats 1600000 in
theorem sall_ok {w : World} {Z : Nat → Prop} {sh mp g : Nat} {h : List Rc} (x : Sk w Z sh mp g h) :
    Calls Tryz.prog 67 #[.pointer (some ⟨sh, 1, none⟩)] w fun e w' => ∃ v ss G, e = .returned v ∧ Kp (fun _ => False) w w' ∧ R3 w' (fun b => w.heap.size ≤ b) G v (srt3 ss) ∧ Ths h ss ∧ GofS w Z h G := by
  have c1 : w.cell? ⟨sh, 1, none⟩ = some (.map (some mp)) := x.l.cell (j := 1) rfl
  obtain ⟨c, T, hc, ⟨D, hown, hd⟩, hT⟩ := x.m
  obtain ⟨G, hG⟩ : ∃ G : K3 → G3, ∀ y z, T y = some (vE (fun _ => z) y) → T y = some (vE G y) := by
    refine ⟨fun y => (Classical.epsilon fun z : G3 => T y = some (vE (fun _ => z) y)), fun y z hz => ?_⟩
    exact Classical.epsilon_spec (p := fun z : G3 => T y = some (vE (fun _ => z) y)) ⟨z, hz⟩
  have hrec : ∀ y o, wf3 y → (stS h).1 y = some o → ∃ p cp, T y = some (rcV o p cp) ∧ T y = some (vE (fun _ => ⟨o.e, p, o.b.length, cp⟩) y) ∧ Rb w p o.b.length o.b ∧ (∀ a, p = some a → Z a.block) := fun y o hw ho => by
    obtain ⟨p, cp, h1, h2, h3⟩ := (hT y hw).2 o ho
    obtain ⟨e1, e2⟩ := stS_sub h y o ho
    obtain ⟨f1, f2, f3⟩ := sub_parts e2
    refine ⟨p, cp, h1, ?_, h2, h3⟩
    rw [h1, e1]
    simp only [vE, f1, f2, f3]
  have hGof : Gof T G := fun y hw v hv => by
    cases ho : (stS h).1 y with
    | none => rw [(hT y hw).1 ho] at hv; cases hv
    | some o =>
      obtain ⟨p, cp, h1, h2, _⟩ := hrec y o hw ho
      have := hG y _ h2
      rw [hv] at this
      exact Option.some.inj this
  have HGS : Hid (GofS w Z h G) := fun y o hw ho => by
    obtain ⟨p, cp, h1, h2, h3, h4⟩ := hrec y o hw ho
    have e := hG y _ h2
    rw [h2] at e
    have e2 := Option.some.inj e
    simp only [vE, Value.agg.injEq, Array.mk.injEq, List.cons.injEq, Value.int.injEq, Value.slice.injEq, and_true, true_and] at e2
    obtain ⟨e3, e4⟩ := stS_sub h y o ho
    obtain ⟨f1, f2, f3⟩ := sub_parts e4
    obtain ⟨q1, q2, q3, q4⟩ := e2
    refine ⟨by rw [e3, f1], by rw [e3, f2], by rw [e3, f3], q1.symm, q3.symm, by rw [← q2]; exact h3, by rw [← q2]; exact h4, x.g o ((stS_bd x.g x.n).2.2 y o ho)⟩
  have HTh : Hid (∀ ss, V3 D (fun _ => false) ss → Ths h ss) := fun ss hv => by
    refine ⟨hv.1, fun y => ⟨fun hy => ?_, fun hy => ?_⟩⟩
    · have hw := hv.2.1 y hy
      refine ⟨hw, ?_⟩
      have h1 := ((hv.2.2 y hw).1 hy).1
      cases ho : (stS h).1 y with
      | none => rw [hd.no y hw ((hT y hw).1 ho)] at h1; cases h1
      | some o => exact ⟨o, rfl⟩
    · obtain ⟨hw, o, ho⟩ := hy
      obtain ⟨p, cp, h1, _⟩ := hrec y o hw ho
      exact (hv.2.2 y hw).2 ⟨(hd.yes y hw _ h1).1, rfl⟩
  have HLen : Hid (∀ ss, V3 D (fun _ => false) ss → ss.length ≤ 100000) := fun ss hv => by
    have := (HTh.out ss hv).len x
    omega
  have HV : Hid (Calls _ _ _ w _) := valsF_ok mp w
  have k1 : Kp (fun _ => False) w (w.alloc (.cells #[.map (some mp)] 93)) := (Kp.refl _ _).alloc _
  have hl1 : Lv (w.alloc (.cells #[.map (some mp)] 93)) w.heap.size [.map (some mp)] := Lv.new w _ _
  have HC : Hid (Calls _ _ _ (w.alloc (.cells #[.map (some mp)] 93)) _) := collect3 w.heap.size mp c D G T hd hGof (by rw [hd.size]; have := x.n; omega) _ (by simp) (hl1.cell (j := 0) rfl) (by
    have hbl := hown.lt
    obtain ⟨es, clock, hb, Ft, hs, hD⟩ := hown
    exact ⟨es, clock, (k1.block mp hbl (fun e => e)).trans hb, Ft, hs, hD⟩)
  have K1 : Hid (Kp (fun _ => False) w (w.alloc (.cells #[.map (some mp)] 93))) := k1
  clear x hc hown hd hT hG hrec hGof k1 hl1
  go_enter Tryz.func67, Tryz.ntmps67
  go_wp2_with fail
  refine HV.out.mono ?_
  rintro q w1 ⟨rfl, rfl⟩
  clear HV
  go_wp2_with fail
  refine HC.out.mono ?_
  rintro q w2 ⟨v, ss, rfl, h1, h2, h3⟩
  have HS : Hid (Calls _ _ _ w2 _) := sort3own h2 (HLen.out ss h1)
  have HB : Hid (∀ b, v.ownBlock = some b → w.heap.size ≤ b) := fun b e => Nat.le_trans K1.out.size (ownBlock_lt h2 e).1
  have HK : Hid (Ths h ss ∧ Kp (fun _ => False) w w2) := ⟨HTh.out ss h1, K1.out.trans h3 (fun _ _ e => e)⟩
  clear h1 h2 h3 HC
  go_wp2_with fail
  refine HS.out.mono ?_
  rintro q w3 ⟨rfl, k3, p3⟩
  have HF : Hid (Ths h ss ∧ R3 w3 (fun b => w.heap.size ≤ b) G v (srt3 ss) ∧ Kp (fun _ => False) w w3) := ⟨HK.out.1, p3.mono (fun b e => HB.out b e), HK.out.2.trans k3 (fun b hb e => by have := HB.out b e; omega)⟩
  clear k3 p3 HS
  go_wp2
  go_ret
  obtain ⟨f1, f2, f3⟩ := HF.out
  exact ⟨v, ss, G, rfl, f3, f2, f1, HGS.out⟩
end Go.Proofs.YtippipeebkkghaaGreatDoor
