/- Texts of this proof, joined: Ix, Iy, Iz. -/
import Derived.Test.YtmooddbhcccicaaGreatDoorMgAZ
import Derived.Test.YtmooddbhcccicaaGreatDoorMgBB
import Derived.Test.YtmooddbhcccicaaGreatDoorMgAH
import Derived.Deep.AppendSrc
/- A shelf's stock, all of it in order. -/
namespace Go.Proofs.YtmooddbhcccicaaGreatDoor
set_option linter.unusedVariables false
set_option linter.unusedSimpArgs false
open Go.RowKit Go.Deep Go.Maps

instance : Nonempty G3 := ⟨⟨0, none, 0, 0⟩⟩
theorem stS_sub (h : List Rc) : ∀ (x : K3) (o : Rc), (stS h).1 x = some o → x = subS o ∧ staysS o = true := by
  suffices H : ∀ n, ∀ h : List Rc, h.length = n → ∀ (x : K3) (o : Rc), (stS h).1 x = some o → x = subS o ∧ staysS o = true from H _ h rfl
  intro n
  induction n with
  | zero =>
    intro h hl x o e
    rw [List.eq_nil_of_length_eq_zero hl, stS_nil] at e
    cases e
  | succ n ih =>
    intro h hl x o e
    obtain ⟨l, r, rfl⟩ : ∃ l r, h = l ++ [r] := ⟨h.dropLast, h.getLast (by intro e; subst e; simp at hl), (List.dropLast_concat_getLast _).symm⟩
    rw [stS_at] at e
    by_cases h1 : x = subS r
    · rw [if_pos h1] at e
      by_cases h2 : staysS r = true
      · rw [if_pos h2] at e
        cases e
        exact ⟨h1, h2⟩
      · rw [if_neg h2] at e; cases e
    · rw [if_neg h1] at e
      exact ih l (by simpa using hl) x o e
theorem sub_parts {o : Rc} (h : staysS o = true) : (subS o).k = (o.k : Int) ∧ (subS o).n = (o.n : Int) ∧ (subS o).i = (o.i : Int) := by
  unfold staysS at h
  have h2 : o.k ≠ 2 := by
    intro e
    simp [e] at h
  unfold subS
  rw [if_neg h2]
  exact ⟨rfl, rfl, rfl⟩
/-- what is told of a thing: its record in memory -/
def GofS (w : World) (Z : Nat → Prop) (h : List Rc) (G : K3 → G3) : Prop := ∀ x o, wf3 x → (stS h).1 x = some o → x.k = (o.k : Int) ∧ x.n = (o.n : Int) ∧ x.i = (o.i : Int) ∧ (G x).e = (o.e : Int) ∧ (G x).n = o.b.length ∧ Rb w (G x).p o.b.length o.b ∧ (∀ a, (G x).p = some a → Z a.block) ∧ GoodR o
theorem GofS.keep {w w' : World} {S Z : Nat → Prop} {h : List Rc} {G : K3 → G3} (x : GofS w Z h G) (k : Kp S w w') (hS : ∀ b, Z b → ¬ S b) : GofS w' Z h G := fun y o hw e => by
  obtain ⟨a1, a2, a3, a4, a5, a6, a7, a8⟩ := x y o hw e
  exact ⟨a1, a2, a3, a4, a5, a6.keep k (fun a ha _ => hS _ (a7 a ha)), a7, a8⟩
/-- the things that are there, in whatever order -/
def Ths (h : List Rc) (ss : List K3) : Prop := ss.Nodup ∧ ∀ x, x ∈ ss ↔ wf3 x ∧ ∃ o, (stS h).1 x = some o
theorem Ths.perm {h : List Rc} {a b : List K3} (ha : Ths h a) (hb : Ths h b) : a.Perm b := (List.perm_ext_iff_of_nodup ha.1 hb.1).2 fun x => (ha.2 x).trans (hb.2 x).symm
theorem Ths.len {w : World} {Z : Nat → Prop} {sh mp g : Nat} {h : List Rc} (x : Sk w Z sh mp g h) {ss : List K3} (hs : Ths h ss) : ss.length ≤ 1000 := by
  have h1 := len_sub ss (h.map subS) hs.1 (fun y hy => by
    obtain ⟨_, o, ho⟩ := (hs.2 y).1 hy
    rw [(stS_sub h y o ho).1]
    exact List.mem_map_of_mem ((stS_bd x.g x.n).2.2 y o ho))
  rw [List.length_map] at h1
  exact Nat.le_trans h1 x.n

set_option maxRecDepth 100000 in
set_option maxHeartbeats 1600000 in
theorem sall_ok {w : World} {Z : Nat → Prop} {sh mp g : Nat} {h : List Rc} (x : Sk w Z sh mp g h) :
    Calls Tryz.prog 47 #[.pointer (some ⟨sh, 1, none⟩)] w fun e w' => ∃ v ss G, e = .returned v ∧ Kp (fun _ => False) w w' ∧ R3 w' (fun b => w.heap.size ≤ b) G v (srt3 ss) ∧ Ths h ss ∧ GofS w Z h G := by
  have c1 : w.cell? ⟨sh, 1, none⟩ = some (.map (some mp)) := x.l.cell (j := 1) rfl
  obtain ⟨c, T, hc, ⟨D, hown, hd⟩, hT⟩ := x.m
  obtain ⟨G, hG⟩ : ∃ G : K3 → G3, ∀ y z, T y = some (vE (fun _ => z) y) → T y = some (vE G y) := by
    refine ⟨fun y => (Classical.epsilon fun z : G3 => T y = some (vE (fun _ => z) y)), fun y z hz => ?_⟩
    exact Classical.epsilon_spec (p := fun z : G3 => T y = some (vE (fun _ => z) y)) ⟨z, hz⟩
  have hrec : ∀ y o, wf3 y → (stS h).1 y = some o → ∃ p cp, T y = some (rcV o p cp) ∧ T y = some (vE (fun _ => ⟨o.e, p, o.b.length, cp⟩) y) ∧ Rb w p o.b.length o.b ∧ (∀ a, p = some a → Z a.block) := fun y o hw ho => by
    obtain ⟨p, cp, h1, h2, h3⟩ := (hT y hw).2 o ho
    obtain ⟨e1, e2⟩ := stS_sub h y o ho
    obtain ⟨f1, f2, f3⟩ := sub_parts e2
    refine ⟨p, cp, h1, ?_, h2, h3⟩
    rw [h1, e1]
    simp only [vE, f1, f2, f3]
  have hGof : Gof T G := fun y hw v hv => by
    cases ho : (stS h).1 y with
    | none => rw [(hT y hw).1 ho] at hv; cases hv
    | some o =>
      obtain ⟨p, cp, h1, h2, _⟩ := hrec y o hw ho
      have := hG y _ h2
      rw [hv] at this
      exact Option.some.inj this
  have HGS : Hid (GofS w Z h G) := fun y o hw ho => by
    obtain ⟨p, cp, h1, h2, h3, h4⟩ := hrec y o hw ho
    have e := hG y _ h2
    rw [h2] at e
    have e2 := Option.some.inj e
    simp only [vE, Value.agg.injEq, Array.mk.injEq, List.cons.injEq, Value.int.injEq, Value.slice.injEq, and_true, true_and] at e2
    obtain ⟨e3, e4⟩ := stS_sub h y o ho
    obtain ⟨f1, f2, f3⟩ := sub_parts e4
    obtain ⟨q1, q2, q3, q4⟩ := e2
    refine ⟨by rw [e3, f1], by rw [e3, f2], by rw [e3, f3], q1.symm, q3.symm, by rw [← q2]; exact h3, by rw [← q2]; exact h4, x.g o ((stS_bd x.g x.n).2.2 y o ho)⟩
  have HTh : Hid (∀ ss, V3 D (fun _ => false) ss → Ths h ss) := fun ss hv => by
    refine ⟨hv.1, fun y => ⟨fun hy => ?_, fun hy => ?_⟩⟩
    · have hw := hv.2.1 y hy
      refine ⟨hw, ?_⟩
      have h1 := ((hv.2.2 y hw).1 hy).1
      cases ho : (stS h).1 y with
      | none => rw [hd.no y hw ((hT y hw).1 ho)] at h1; cases h1
      | some o => exact ⟨o, rfl⟩
    · obtain ⟨hw, o, ho⟩ := hy
      obtain ⟨p, cp, h1, _⟩ := hrec y o hw ho
      exact (hv.2.2 y hw).2 ⟨(hd.yes y hw _ h1).1, rfl⟩
  have HLen : Hid (∀ ss, V3 D (fun _ => false) ss → ss.length ≤ 100000) := fun ss hv => by
    have := (HTh.out ss hv).len x
    omega
  have HV : Hid (Calls _ _ _ w _) := valsF_ok mp w
  have k1 : Kp (fun _ => False) w (w.alloc (.cells #[.map (some mp)] 88)) := (Kp.refl _ _).alloc _
  have hl1 : Lv (w.alloc (.cells #[.map (some mp)] 88)) w.heap.size [.map (some mp)] := Lv.new w _ _
  have HC : Hid (Calls _ _ _ (w.alloc (.cells #[.map (some mp)] 88)) _) := collect3 w.heap.size mp c D G T hd hGof (by rw [hd.size]; have := x.n; omega) _ (by simp) (hl1.cell (j := 0) rfl) (by
    have hbl := hown.lt
    obtain ⟨es, clock, hb, Ft, hs, hD⟩ := hown
    exact ⟨es, clock, (k1.block mp hbl (fun e => e)).trans hb, Ft, hs, hD⟩)
  have K1 : Hid (Kp (fun _ => False) w (w.alloc (.cells #[.map (some mp)] 88))) := k1
  clear x hc hown hd hT hG hrec hGof k1 hl1
  go_enter Tryz.func47, Tryz.ntmps47
  go_wp2_with fail
  refine HV.out.mono ?_
  rintro q w1 ⟨rfl, rfl⟩
  clear HV
  go_wp2_with fail
  refine HC.out.mono ?_
  rintro q w2 ⟨v, ss, rfl, h1, h2, h3⟩
  have HS : Hid (Calls _ _ _ w2 _) := sort3own h2 (HLen.out ss h1)
  have HB : Hid (∀ b, v.ownBlock = some b → w.heap.size ≤ b) := fun b e => Nat.le_trans K1.out.size (ownBlock_lt h2 e).1
  have HK : Hid (Ths h ss ∧ Kp (fun _ => False) w w2) := ⟨HTh.out ss h1, K1.out.trans h3 (fun _ _ e => e)⟩
  clear h1 h2 h3 HC
  go_wp2_with fail
  refine HS.out.mono ?_
  rintro q w3 ⟨rfl, k3, p3⟩
  have HF : Hid (Ths h ss ∧ R3 w3 (fun b => w.heap.size ≤ b) G v (srt3 ss) ∧ Kp (fun _ => False) w w3) := ⟨HK.out.1, p3.mono (fun b e => HB.out b e), HK.out.2.trans k3 (fun b hb e => by have := HB.out b e; omega)⟩
  clear k3 p3 HS
  go_wp2
  go_ret
  obtain ⟨f1, f2, f3⟩ := HF.out
  exact ⟨v, ss, G, rfl, f3, f2, f1, HGS.out⟩
end Go.Proofs.YtmooddbhcccicaaGreatDoor

/- Held: rows of what is held; the drawn region of Held (laid by scripts/mkiy.py). -/
namespace Go.Proofs.YtmooddbhcccicaaGreatDoor
set_option linter.unusedVariables false
set_option linter.unusedSimpArgs false
open Go.RowKit Go.Deep Go.Maps

theorem hd_bs (n i : Int) (pu : Option Addr) (l cu x : Nat) (ev : Operand → Value) (z : World) (hx : x = z.heap.size) (e32 : ev (.tmp 32) = .agg #[.int .i64 n, .int .i64 i, .slice pu l cu]) : (execOp ev ⟨some 33, Op.buildSlice 47 1 #[(0, Operand.tmp 32)], 47, "", #[], none⟩).run Tryz.prog z = .ok (.value (.slice (some ⟨x, 0, none⟩) 1 1)) (z.alloc (.cells #[.int .i64 n, .int .i64 i, .slice pu l cu] 97)) := by
  subst hx
  go_simp
theorem hd_ap (v x v2 : Value) (ev : Operand → Value) (z z2 : World) (e22 : ev (.tmp 22) = v) (e33 : ev (.tmp 33) = x) (hr : (Builtin.append_ #[47, 47] 47 #[v, x]).run Tryz.prog z = .ok v2 z2) : (execOp ev ⟨some 34, Op.call { callee := Callee.builtin Builtin.append, args := #[Operand.tmp 22, Operand.tmp 33], argTypes := #[47, 47] }, 47, "", #[], none⟩).run Tryz.prog z = .ok (.value v2) z2 := by
  unfold execOp
  simp only [resolve, invoke, builtin, Sem.run_bind, Sem.run_pure, Result.andThen_ok, List.map_toArray, List.map_cons, List.map_nil, e22, e33, hr]
theorem hd8_0 (q : Nat) (v : Value) (n i : Int) (p : Option Addr) (l cp : Nat) (pu : Option Addr) (cu : Nat) (v2 : Value) (xh : Nat) (ev : Operand → Value) (z : World) (ec : ∀ c, ev (.const c) = c) (e3 : ev (.tmp 3) = v) (hS : z.cell? ⟨q, 1, none⟩ = some (.int .i64 n) ∧ z.cell? ⟨q, 2, none⟩ = some (.int .i64 i) ∧ z.cell? ⟨q, 4, none⟩ = some (.slice p l cp)) : (execOp ev ⟨some 22, Op.move (Operand.tmp 3), 47, "", #[], none⟩).run Tryz.prog z = .ok (.value (v)) z := by
  obtain ⟨s1, s2, s4⟩ := hS
  go_simp
theorem hd8_1 (q : Nat) (v : Value) (n i : Int) (p : Option Addr) (l cp : Nat) (pu : Option Addr) (cu : Nat) (v2 : Value) (xh : Nat) (ev : Operand → Value) (z : World) (ec : ∀ c, ev (.const c) = c) (e5 : ev (.tmp 5) = .pointer (some ⟨q, 0, none⟩)) (hS : z.cell? ⟨q, 1, none⟩ = some (.int .i64 n) ∧ z.cell? ⟨q, 2, none⟩ = some (.int .i64 i) ∧ z.cell? ⟨q, 4, none⟩ = some (.slice p l cp)) : (execOp ev ⟨some 23, Op.fieldAddr 85 (Operand.tmp 5) 0, 0, "", #[], none⟩).run Tryz.prog z = .ok (.value (.pointer (some ⟨q, 0, none⟩))) z := by
  obtain ⟨s1, s2, s4⟩ := hS
  go_simp
theorem hd8_2 (q : Nat) (v : Value) (n i : Int) (p : Option Addr) (l cp : Nat) (pu : Option Addr) (cu : Nat) (v2 : Value) (xh : Nat) (ev : Operand → Value) (z : World) (ec : ∀ c, ev (.const c) = c) (e23 : ev (.tmp 23) = .pointer (some ⟨q, 0, none⟩)) (hS : z.cell? ⟨q, 1, none⟩ = some (.int .i64 n) ∧ z.cell? ⟨q, 2, none⟩ = some (.int .i64 i) ∧ z.cell? ⟨q, 4, none⟩ = some (.slice p l cp)) : (execOp ev ⟨some 24, Op.fieldAddr 83 (Operand.tmp 23) 1, 0, "", #[], none⟩).run Tryz.prog z = .ok (.value (.pointer (some ⟨q, 1, none⟩))) z := by
  obtain ⟨s1, s2, s4⟩ := hS
  go_simp
theorem hd8_3 (q : Nat) (v : Value) (n i : Int) (p : Option Addr) (l cp : Nat) (pu : Option Addr) (cu : Nat) (v2 : Value) (xh : Nat) (ev : Operand → Value) (z : World) (ec : ∀ c, ev (.const c) = c) (e24 : ev (.tmp 24) = .pointer (some ⟨q, 1, none⟩)) (hS : z.cell? ⟨q, 1, none⟩ = some (.int .i64 n) ∧ z.cell? ⟨q, 2, none⟩ = some (.int .i64 i) ∧ z.cell? ⟨q, 4, none⟩ = some (.slice p l cp)) : (execOp ev ⟨some 25, Op.load 3 (Operand.tmp 24), 3, "", #[], none⟩).run Tryz.prog z = .ok (.value (.int .i64 n)) z := by
  obtain ⟨s1, s2, s4⟩ := hS
  go_simp
theorem hd8_4 (q : Nat) (v : Value) (n i : Int) (p : Option Addr) (l cp : Nat) (pu : Option Addr) (cu : Nat) (v2 : Value) (xh : Nat) (ev : Operand → Value) (z : World) (ec : ∀ c, ev (.const c) = c) (e5 : ev (.tmp 5) = .pointer (some ⟨q, 0, none⟩)) (hS : z.cell? ⟨q, 1, none⟩ = some (.int .i64 n) ∧ z.cell? ⟨q, 2, none⟩ = some (.int .i64 i) ∧ z.cell? ⟨q, 4, none⟩ = some (.slice p l cp)) : (execOp ev ⟨some 26, Op.fieldAddr 85 (Operand.tmp 5) 0, 0, "", #[], none⟩).run Tryz.prog z = .ok (.value (.pointer (some ⟨q, 0, none⟩))) z := by
  obtain ⟨s1, s2, s4⟩ := hS
  go_simp
theorem hd8_5 (q : Nat) (v : Value) (n i : Int) (p : Option Addr) (l cp : Nat) (pu : Option Addr) (cu : Nat) (v2 : Value) (xh : Nat) (ev : Operand → Value) (z : World) (ec : ∀ c, ev (.const c) = c) (e26 : ev (.tmp 26) = .pointer (some ⟨q, 0, none⟩)) (hS : z.cell? ⟨q, 1, none⟩ = some (.int .i64 n) ∧ z.cell? ⟨q, 2, none⟩ = some (.int .i64 i) ∧ z.cell? ⟨q, 4, none⟩ = some (.slice p l cp)) : (execOp ev ⟨some 27, Op.fieldAddr 83 (Operand.tmp 26) 2, 0, "", #[], none⟩).run Tryz.prog z = .ok (.value (.pointer (some ⟨q, 2, none⟩))) z := by
  obtain ⟨s1, s2, s4⟩ := hS
  go_simp
theorem hd8_6 (q : Nat) (v : Value) (n i : Int) (p : Option Addr) (l cp : Nat) (pu : Option Addr) (cu : Nat) (v2 : Value) (xh : Nat) (ev : Operand → Value) (z : World) (ec : ∀ c, ev (.const c) = c) (e27 : ev (.tmp 27) = .pointer (some ⟨q, 2, none⟩)) (hS : z.cell? ⟨q, 1, none⟩ = some (.int .i64 n) ∧ z.cell? ⟨q, 2, none⟩ = some (.int .i64 i) ∧ z.cell? ⟨q, 4, none⟩ = some (.slice p l cp)) : (execOp ev ⟨some 28, Op.load 3 (Operand.tmp 27), 3, "", #[], none⟩).run Tryz.prog z = .ok (.value (.int .i64 i)) z := by
  obtain ⟨s1, s2, s4⟩ := hS
  go_simp
theorem hd8_7 (q : Nat) (v : Value) (n i : Int) (p : Option Addr) (l cp : Nat) (pu : Option Addr) (cu : Nat) (v2 : Value) (xh : Nat) (ev : Operand → Value) (z : World) (ec : ∀ c, ev (.const c) = c) (e5 : ev (.tmp 5) = .pointer (some ⟨q, 0, none⟩)) (hS : z.cell? ⟨q, 1, none⟩ = some (.int .i64 n) ∧ z.cell? ⟨q, 2, none⟩ = some (.int .i64 i) ∧ z.cell? ⟨q, 4, none⟩ = some (.slice p l cp)) : (execOp ev ⟨some 29, Op.fieldAddr 85 (Operand.tmp 5) 2, 0, "", #[], none⟩).run Tryz.prog z = .ok (.value (.pointer (some ⟨q, 4, none⟩))) z := by
  obtain ⟨s1, s2, s4⟩ := hS
  go_simp
theorem hd8_8 (q : Nat) (v : Value) (n i : Int) (p : Option Addr) (l cp : Nat) (pu : Option Addr) (cu : Nat) (v2 : Value) (xh : Nat) (ev : Operand → Value) (z : World) (ec : ∀ c, ev (.const c) = c) (e29 : ev (.tmp 29) = .pointer (some ⟨q, 4, none⟩)) (hS : z.cell? ⟨q, 1, none⟩ = some (.int .i64 n) ∧ z.cell? ⟨q, 2, none⟩ = some (.int .i64 i) ∧ z.cell? ⟨q, 4, none⟩ = some (.slice p l cp)) : (execOp ev ⟨some 30, Op.load 34 (Operand.tmp 29), 34, "", #[], none⟩).run Tryz.prog z = .ok (.value (.slice p l cp)) z := by
  obtain ⟨s1, s2, s4⟩ := hS
  go_simp
set_option maxRecDepth 100000 in
theorem hd8_9 (q : Nat) (v : Value) (n i : Int) (p : Option Addr) (l cp : Nat) (pu : Option Addr) (cu : Nat) (v2 : Value) (xh : Nat) (ev : Operand → Value) (z : World) (ec : ∀ c, ev (.const c) = c) (ef : ev (.func 13) = .func (.func 13) #[] #[]) (e30 : ev (.tmp 30) = .slice p l cp) : (execOp ev ⟨some 31, Op.call { callee := Callee.value (Operand.func 13), args := #[Operand.tmp 30], argTypes := #[34] }, 34, "", #[], none⟩).run Tryz.prog z = .ok (.enter 13 #[.slice p l cp]) z :=
  enter_run _ ef (by simp only [List.map_toArray, List.map_cons, List.map_nil, ec, e30]) (fun _ => by rfl)
theorem hd8_10 (q : Nat) (v : Value) (n i : Int) (p : Option Addr) (l cp : Nat) (pu : Option Addr) (cu : Nat) (v2 : Value) (xh : Nat) (ev : Operand → Value) (z : World) (ec : ∀ c, ev (.const c) = c) (e25 : ev (.tmp 25) = .int .i64 n) (e28 : ev (.tmp 28) = .int .i64 i) (e31 : ev (.tmp 31) = .slice pu l cu) (hS : z.cell? ⟨q, 1, none⟩ = some (.int .i64 n) ∧ z.cell? ⟨q, 2, none⟩ = some (.int .i64 i) ∧ z.cell? ⟨q, 4, none⟩ = some (.slice p l cp)) : (execOp ev ⟨some 32, Op.build 97 #[(0, Operand.tmp 25), (1, Operand.tmp 28), (2, Operand.tmp 31)], 97, "", #[], none⟩).run Tryz.prog z = .ok (.value (.agg #[.int .i64 n, .int .i64 i, .slice pu l cu])) z := by
  obtain ⟨s1, s2, s4⟩ := hS
  go_simp
theorem hd8_13 (q : Nat) (v : Value) (n i : Int) (p : Option Addr) (l cp : Nat) (pu : Option Addr) (cu : Nat) (v2 : Value) (xh : Nat) (ev : Operand → Value) (z : World) (ec : ∀ c, ev (.const c) = c) (e34 : ev (.tmp 34) = v2) (hS : z.cell? ⟨q, 1, none⟩ = some (.int .i64 n) ∧ z.cell? ⟨q, 2, none⟩ = some (.int .i64 i) ∧ z.cell? ⟨q, 4, none⟩ = some (.slice p l cp)) : (execOp ev ⟨some 3, Op.assign (Operand.tmp 34), 47, "", #[], none⟩).run Tryz.prog z = .ok (.value (v2)) z := by
  obtain ⟨s1, s2, s4⟩ := hS
  go_simp
structure hd8R (ops : Array Oper) : Prop where
  size : ops.size = 14
  sel : Region.noSelect ops = true
  o0 : (ops[0]?).map bare = some ⟨some 22, Op.move (Operand.tmp 3), 47, "", #[], none⟩
  o1 : (ops[1]?).map bare = some ⟨some 23, Op.fieldAddr 85 (Operand.tmp 5) 0, 0, "", #[], none⟩
  o2 : (ops[2]?).map bare = some ⟨some 24, Op.fieldAddr 83 (Operand.tmp 23) 1, 0, "", #[], none⟩
  o3 : (ops[3]?).map bare = some ⟨some 25, Op.load 3 (Operand.tmp 24), 3, "", #[], none⟩
  o4 : (ops[4]?).map bare = some ⟨some 26, Op.fieldAddr 85 (Operand.tmp 5) 0, 0, "", #[], none⟩
  o5 : (ops[5]?).map bare = some ⟨some 27, Op.fieldAddr 83 (Operand.tmp 26) 2, 0, "", #[], none⟩
  o6 : (ops[6]?).map bare = some ⟨some 28, Op.load 3 (Operand.tmp 27), 3, "", #[], none⟩
  o7 : (ops[7]?).map bare = some ⟨some 29, Op.fieldAddr 85 (Operand.tmp 5) 2, 0, "", #[], none⟩
  o8 : (ops[8]?).map bare = some ⟨some 30, Op.load 34 (Operand.tmp 29), 34, "", #[], none⟩
  o9 : (ops[9]?).map bare = some ⟨some 31, Op.call { callee := Callee.value (Operand.func 13), args := #[Operand.tmp 30], argTypes := #[34] }, 34, "", #[], none⟩
  o10 : (ops[10]?).map bare = some ⟨some 32, Op.build 97 #[(0, Operand.tmp 25), (1, Operand.tmp 28), (2, Operand.tmp 31)], 97, "", #[], none⟩
  o11 : (ops[11]?).map bare = some ⟨some 33, Op.buildSlice 47 1 #[(0, Operand.tmp 32)], 47, "", #[], none⟩
  o12 : (ops[12]?).map bare = some ⟨some 34, Op.call { callee := Callee.builtin Builtin.append, args := #[Operand.tmp 22, Operand.tmp 33], argTypes := #[47, 47] }, 47, "", #[], none⟩
  o13 : (ops[13]?).map bare = some ⟨some 3, Op.assign (Operand.tmp 34), 47, "", #[], none⟩
  may0 : takeB .any ops [0, 1, 2, 3, 4, 5, 6, 7, 8] (Array.replicate 14 false) = true
  r9 : Region.ready .any ops (mark [0, 1, 2, 3, 4, 5, 6, 7, 8] (Array.replicate 14 false)) = [9]
  may1 : takeB .any ops [10] ((mark [0, 1, 2, 3, 4, 5, 6, 7, 8] (Array.replicate 14 false)).setIfInBounds 9 true) = true
  r11 : Region.ready .any ops (mark [10] ((mark [0, 1, 2, 3, 4, 5, 6, 7, 8] (Array.replicate 14 false)).setIfInBounds 9 true)) = [11]
  r12 : Region.ready .any ops ((mark [10] ((mark [0, 1, 2, 3, 4, 5, 6, 7, 8] (Array.replicate 14 false)).setIfInBounds 9 true)).setIfInBounds 11 true) = [12]
  may2 : takeB .any ops [13] (((mark [10] ((mark [0, 1, 2, 3, 4, 5, 6, 7, 8] (Array.replicate 14 false)).setIfInBounds 9 true)).setIfInBounds 11 true).setIfInBounds 12 true) = true
  fin : Region.ready .any ops (mark [13] (((mark [10] ((mark [0, 1, 2, 3, 4, 5, 6, 7, 8] (Array.replicate 14 false)).setIfInBounds 9 true)).setIfInBounds 11 true).setIfInBounds 12 true)) = []

set_option maxRecDepth 100000 in
set_option maxHeartbeats 3200000 in
theorem hd8_region {ops : Array Oper} {id : Nat} {Q : Exit → Act → World → Prop} {a : Act} {y : World} (R : hd8R ops) (q : Nat) (v : Value) (n i : Int) (p : Option Addr) (l cp : Nat) (pu : Option Addr) (cu : Nat) (v2 : Value) (xh : Nat)
    (hQ : ∀ d v c a w, Q (.panic c) (a.put d v) w → Q (.panic c) a w) (hsz : a.tmps.size = 37) (e3 : a.eval (.tmp 3) = v) (e5 : a.eval (.tmp 5) = .pointer (some ⟨q, 0, none⟩)) (hS0 : y.drew.cell? ⟨q, 1, none⟩ = some (.int .i64 n) ∧ y.drew.cell? ⟨q, 2, none⟩ = some (.int .i64 i) ∧ y.drew.cell? ⟨q, 4, none⟩ = some (.slice p l cp)) (T : Value → World → Prop) (hc : Calls Tryz.prog 13 #[.slice p l cp] y.drew fun e w9 => ∃ pu cu xh v2 w2, e = .returned (.slice pu l cu) ∧ (w9.cell? ⟨q, 1, none⟩ = some (.int .i64 n) ∧ w9.cell? ⟨q, 2, none⟩ = some (.int .i64 i) ∧ w9.cell? ⟨q, 4, none⟩ = some (.slice p l cp)) ∧ xh = w9.heap.size ∧ ((w9.alloc (.cells #[.int .i64 n, .int .i64 i, .slice pu l cu] 97)).cell? ⟨q, 1, none⟩ = some (.int .i64 n) ∧ (w9.alloc (.cells #[.int .i64 n, .int .i64 i, .slice pu l cu] 97)).cell? ⟨q, 2, none⟩ = some (.int .i64 i) ∧ (w9.alloc (.cells #[.int .i64 n, .int .i64 i, .slice pu l cu] 97)).cell? ⟨q, 4, none⟩ = some (.slice p l cp)) ∧ (Builtin.append_ #[47, 47] 47 #[v, .slice (some ⟨xh, 0, none⟩) 1 1]).run Tryz.prog (w9.alloc (.cells #[.int .i64 n, .int .i64 i, .slice pu l cu] 97)) = .ok v2 w2 ∧ (w2.cell? ⟨q, 1, none⟩ = some (.int .i64 n) ∧ w2.cell? ⟨q, 2, none⟩ = some (.int .i64 i) ∧ w2.cell? ⟨q, 4, none⟩ = some (.slice p l cp)) ∧ T v2 w2)
    (hK : ∀ (pu : Option Addr) (cu xh : Nat) (v2 : Value) (w2 : World), T v2 w2 → Q .normal ((((((((((((((a.put (some 22) (v)).put (some 23) (.pointer (some ⟨q, 0, none⟩))).put (some 24) (.pointer (some ⟨q, 1, none⟩))).put (some 25) (.int .i64 n)).put (some 26) (.pointer (some ⟨q, 0, none⟩))).put (some 27) (.pointer (some ⟨q, 2, none⟩))).put (some 28) (.int .i64 i)).put (some 29) (.pointer (some ⟨q, 4, none⟩))).put (some 30) (.slice p l cp)).put (some 31) (.slice pu l cu)).put (some 32) (.agg #[.int .i64 n, .int .i64 i, .slice pu l cu])).put (some 33) (.slice (some ⟨xh, 0, none⟩) 1 1)).put (some 34) (v2)).put (some 3) (v2)) w2) : (Code.region id ops true).wp Tryz.prog Q a y := by
  have HR : Hid (hd8R ops) := R
  have hdf : a.defers = a.defers := rfl
  refine wp_region_held_drew (S := (fun z : World => z.cell? ⟨q, 1, none⟩ = some (.int .i64 n) ∧ z.cell? ⟨q, 2, none⟩ = some (.int .i64 i) ∧ z.cell? ⟨q, 4, none⟩ = some (.slice p l cp))) (by kernel_rfl) (hS0) (fun hHeld => ?_)
  rw [R.size]
  clear R
  refine wpAnyH_takes HR.out.sel hQ hHeld [0, 1, 2, 3, 4, 5, 6, 7, 8] 5 _ _ HR.out.may0 ?_
  refine wpTake_stepE ⟨some 22, Op.move (Operand.tmp 3), 47, "", #[], none⟩ 22 (v) HR.out.o0 rfl (by rw [hsz]; decide) (wanted_none rfl) (fun z hS => hd8_0 q v n i p l cp pu cu v2 xh _ z (fun _ => rfl) e3 hS) ?_
  intro a1 ha1 s1 f1 n1 k1
  replace hsz := s1.trans hsz
  replace hdf := f1.trans hdf
  replace e5 := (k1 5 (by decide)).trans e5
  have e22 := n1
  clear s1 f1 n1 k1
  refine wpTake_stepE ⟨some 23, Op.fieldAddr 85 (Operand.tmp 5) 0, 0, "", #[], none⟩ 23 (.pointer (some ⟨q, 0, none⟩)) HR.out.o1 rfl (by rw [hsz]; decide) (wanted_none rfl) (fun z hS => hd8_1 q v n i p l cp pu cu v2 xh _ z (fun _ => rfl) e5 hS) ?_
  intro a2 ha2 s1 f1 n1 k1
  replace hsz := s1.trans hsz
  replace hdf := f1.trans hdf
  replace e5 := (k1 5 (by decide)).trans e5
  replace e22 := (k1 22 (by decide)).trans e22
  have e23 := n1
  clear s1 f1 n1 k1
  refine wpTake_stepE ⟨some 24, Op.fieldAddr 83 (Operand.tmp 23) 1, 0, "", #[], none⟩ 24 (.pointer (some ⟨q, 1, none⟩)) HR.out.o2 rfl (by rw [hsz]; decide) (wanted_none rfl) (fun z hS => hd8_2 q v n i p l cp pu cu v2 xh _ z (fun _ => rfl) e23 hS) ?_
  intro a3 ha3 s1 f1 n1 k1
  replace hsz := s1.trans hsz
  replace hdf := f1.trans hdf
  replace e5 := (k1 5 (by decide)).trans e5
  replace e22 := (k1 22 (by decide)).trans e22
  have e24 := n1
  clear s1 f1 n1 k1
  refine wpTake_stepE ⟨some 25, Op.load 3 (Operand.tmp 24), 3, "", #[], none⟩ 25 (.int .i64 n) HR.out.o3 rfl (by rw [hsz]; decide) (wanted_none rfl) (fun z hS => hd8_3 q v n i p l cp pu cu v2 xh _ z (fun _ => rfl) e24 hS) ?_
  intro a4 ha4 s1 f1 n1 k1
  replace hsz := s1.trans hsz
  replace hdf := f1.trans hdf
  replace e5 := (k1 5 (by decide)).trans e5
  replace e22 := (k1 22 (by decide)).trans e22
  have e25 := n1
  clear s1 f1 n1 k1
  refine wpTake_stepE ⟨some 26, Op.fieldAddr 85 (Operand.tmp 5) 0, 0, "", #[], none⟩ 26 (.pointer (some ⟨q, 0, none⟩)) HR.out.o4 rfl (by rw [hsz]; decide) (wanted_none rfl) (fun z hS => hd8_4 q v n i p l cp pu cu v2 xh _ z (fun _ => rfl) e5 hS) ?_
  intro a5 ha5 s1 f1 n1 k1
  replace hsz := s1.trans hsz
  replace hdf := f1.trans hdf
  replace e5 := (k1 5 (by decide)).trans e5
  replace e22 := (k1 22 (by decide)).trans e22
  replace e25 := (k1 25 (by decide)).trans e25
  have e26 := n1
  clear s1 f1 n1 k1
  refine wpTake_stepE ⟨some 27, Op.fieldAddr 83 (Operand.tmp 26) 2, 0, "", #[], none⟩ 27 (.pointer (some ⟨q, 2, none⟩)) HR.out.o5 rfl (by rw [hsz]; decide) (wanted_none rfl) (fun z hS => hd8_5 q v n i p l cp pu cu v2 xh _ z (fun _ => rfl) e26 hS) ?_
  intro a6 ha6 s1 f1 n1 k1
  replace hsz := s1.trans hsz
  replace hdf := f1.trans hdf
  replace e5 := (k1 5 (by decide)).trans e5
  replace e22 := (k1 22 (by decide)).trans e22
  replace e25 := (k1 25 (by decide)).trans e25
  have e27 := n1
  clear s1 f1 n1 k1
  refine wpTake_stepE ⟨some 28, Op.load 3 (Operand.tmp 27), 3, "", #[], none⟩ 28 (.int .i64 i) HR.out.o6 rfl (by rw [hsz]; decide) (wanted_none rfl) (fun z hS => hd8_6 q v n i p l cp pu cu v2 xh _ z (fun _ => rfl) e27 hS) ?_
  intro a7 ha7 s1 f1 n1 k1
  replace hsz := s1.trans hsz
  replace hdf := f1.trans hdf
  replace e5 := (k1 5 (by decide)).trans e5
  replace e22 := (k1 22 (by decide)).trans e22
  replace e25 := (k1 25 (by decide)).trans e25
  have e28 := n1
  clear s1 f1 n1 k1
  refine wpTake_stepE ⟨some 29, Op.fieldAddr 85 (Operand.tmp 5) 2, 0, "", #[], none⟩ 29 (.pointer (some ⟨q, 4, none⟩)) HR.out.o7 rfl (by rw [hsz]; decide) (wanted_none rfl) (fun z hS => hd8_7 q v n i p l cp pu cu v2 xh _ z (fun _ => rfl) e5 hS) ?_
  intro a8 ha8 s1 f1 n1 k1
  replace hsz := s1.trans hsz
  replace hdf := f1.trans hdf
  replace e22 := (k1 22 (by decide)).trans e22
  replace e25 := (k1 25 (by decide)).trans e25
  replace e28 := (k1 28 (by decide)).trans e28
  have e29 := n1
  clear s1 f1 n1 k1
  refine wpTake_stepE ⟨some 30, Op.load 34 (Operand.tmp 29), 34, "", #[], none⟩ 30 (.slice p l cp) HR.out.o8 rfl (by rw [hsz]; decide) (wanted_none rfl) (fun z hS => hd8_8 q v n i p l cp pu cu v2 xh _ z (fun _ => rfl) e29 hS) ?_
  intro a9 ha9 s1 f1 n1 k1
  replace hsz := s1.trans hsz
  replace hdf := f1.trans hdf
  replace e22 := (k1 22 (by decide)).trans e22
  replace e25 := (k1 25 (by decide)).trans e25
  replace e28 := (k1 28 (by decide)).trans e28
  have e30 := n1
  clear s1 f1 n1 k1
  refine wpTake_nil ?_
  refine wpAnyH_one ⟨some 31, Op.call { callee := Callee.value (Operand.func 13), args := #[Operand.tmp 30], argTypes := #[34] }, 34, "", #[], none⟩ HR.out.r9 HR.out.o9 rfl (fun K' hK' => ?_)
  refine wp_enter (hd8_9 q v n i p l cp pu cu v2 xh _ _ (fun _ => rfl) rfl e30) (hc) ?_
  rintro e9 w9 ⟨pu, cu, xh, v2, w2, rfl, hS9, hx, hS1, hap, hS2, hT⟩
  refine ⟨_, rfl, hK'.out _ _ (hS9) ?_⟩
  replace hHeld := hS9
  clear hK' K'
  show wpAnyH _ _ _ _ _ _ _ (Act.put a9 (some 31) (.slice pu l cu)) _
  obtain ⟨s1, f1, n1, k1⟩ := act_put a9 31 (.slice pu l cu) (show 31 < _ by rw [hsz]; decide)
  obtain ⟨a10, ha10⟩ : ∃ x, x = Act.put a9 (some 31) (.slice pu l cu) := ⟨_, rfl⟩
  rw [← ha10] at s1 f1 n1 k1 ⊢
  replace hsz := s1.trans hsz
  replace hdf := f1.trans hdf
  replace e22 := (k1 22 (by decide)).trans e22
  replace e25 := (k1 25 (by decide)).trans e25
  replace e28 := (k1 28 (by decide)).trans e28
  have e31 := n1
  clear s1 f1 n1 k1
  refine wpAnyH_takes HR.out.sel hQ hHeld [10] 3 _ _ HR.out.may1 ?_
  refine wpTake_stepE ⟨some 32, Op.build 97 #[(0, Operand.tmp 25), (1, Operand.tmp 28), (2, Operand.tmp 31)], 97, "", #[], none⟩ 32 (.agg #[.int .i64 n, .int .i64 i, .slice pu l cu]) HR.out.o10 rfl (by rw [hsz]; decide) (wanted_none rfl) (fun z hS => hd8_10 q v n i p l cp pu cu v2 xh _ z (fun _ => rfl) e25 e28 e31 hS) ?_
  intro a11 ha11 s1 f1 n1 k1
  replace hsz := s1.trans hsz
  replace hdf := f1.trans hdf
  replace e22 := (k1 22 (by decide)).trans e22
  have e32 := n1
  clear s1 f1 n1 k1
  refine wpTake_nil ?_
  refine wpAnyH_run ⟨some 33, Op.buildSlice 47 1 #[(0, Operand.tmp 32)], 47, "", #[], none⟩ _ (.slice (some ⟨xh, 0, none⟩) 1 1) (w9.alloc (.cells #[.int .i64 n, .int .i64 i, .slice pu l cu] 97)) HR.out.r11 HR.out.o11 rfl rfl (hd_bs n i pu l cu xh _ _ hx e32) (hS1) ?_
  replace hHeld := hS1
  obtain ⟨s1, f1, n1, k1⟩ := act_put a11 33 (.slice (some ⟨xh, 0, none⟩) 1 1) (show 33 < _ by rw [hsz]; decide)
  obtain ⟨a12, ha12⟩ : ∃ x, x = Act.put a11 (some 33) (.slice (some ⟨xh, 0, none⟩) 1 1) := ⟨_, rfl⟩
  rw [← ha12] at s1 f1 n1 k1 ⊢
  replace hsz := s1.trans hsz
  replace hdf := f1.trans hdf
  replace e22 := (k1 22 (by decide)).trans e22
  have e33 := n1
  clear s1 f1 n1 k1
  refine wpAnyH_run ⟨some 34, Op.call { callee := Callee.builtin Builtin.append, args := #[Operand.tmp 22, Operand.tmp 33], argTypes := #[47, 47] }, 47, "", #[], none⟩ _ (v2) w2 HR.out.r12 HR.out.o12 rfl rfl (hd_ap _ _ _ _ _ _ e22 e33 hap) (hS2) ?_
  replace hHeld := hS2
  obtain ⟨s1, f1, n1, k1⟩ := act_put a12 34 (v2) (show 34 < _ by rw [hsz]; decide)
  obtain ⟨a13, ha13⟩ : ∃ x, x = Act.put a12 (some 34) (v2) := ⟨_, rfl⟩
  rw [← ha13] at s1 f1 n1 k1 ⊢
  replace hsz := s1.trans hsz
  replace hdf := f1.trans hdf
  have e34 := n1
  clear s1 f1 n1 k1
  refine wpAnyH_takes HR.out.sel hQ hHeld [13] 0 _ _ HR.out.may2 ?_
  refine wpTake_stepE ⟨some 3, Op.assign (Operand.tmp 34), 47, "", #[], none⟩ 3 (v2) HR.out.o13 rfl (by rw [hsz]; decide) (wanted_none rfl) (fun z hS => hd8_13 q v n i p l cp pu cu v2 xh _ z (fun _ => rfl) e34 hS) ?_
  intro a14 ha14 s1 f1 n1 k1
  replace hsz := s1.trans hsz
  replace hdf := f1.trans hdf
  clear s1 f1 n1 k1
  refine wpTake_nil ?_
  refine wpAnyH_done HR.out.fin ?_ _
  rw [ha14, ha13, ha12, ha11, ha10, ha9, ha8, ha7, ha6, ha5, ha4, ha3, ha2, ha1]
  exact hK _ _ _ _ _ hT
-- R: ⟨by kernel_rfl, by kernel_rfl, by kernel_rfl, by kernel_rfl, by kernel_rfl, by kernel_rfl, by kernel_rfl, by kernel_rfl, by kernel_rfl, by kernel_rfl, by kernel_rfl, by kernel_rfl, by kernel_rfl, by kernel_rfl, by kernel_rfl, by kernel_rfl, by kernel_rfl, by kernel_rfl, by kernel_rfl, by kernel_rfl, by kernel_rfl, by kernel_rfl, by kernel_rfl⟩

end Go.Proofs.YtmooddbhcccicaaGreatDoor

/- Held: the whole of it. -/
namespace Go.Proofs.YtmooddbhcccicaaGreatDoor
set_option linter.unusedVariables false
set_option linter.unusedSimpArgs false
open Go.RowKit Go.Deep Go.Maps

/-- the cells of what is held -/
def hfl (ps : List (Rc × Value)) : List Value := ps.flatMap fun z => [.int .i64 (z.1.n : Int), .int .i64 (z.1.i : Int), z.2]
theorem hfl_app (a b : List (Rc × Value)) : hfl (a ++ b) = hfl a ++ hfl b := by unfold hfl; rw [List.flatMap_append]
/-- a row of what is held, of one's own, each in bytes of one's own -/
def Hr (w : World) (base : Nat) (v : Value) (ps : List (Rc × Value)) : Prop := w.ownsRow base 97 3 v ps.length (hfl ps) ∧ ∀ z ∈ ps, Ow w base z.2 z.1.b ∧ (∀ x ∈ z.1.b, x < 256) ∧ ∀ b, v.ownBlock = some b → z.2.ownBlock ≠ some b
theorem Hr.nil (w : World) (base : Nat) : Hr w base (.slice none 0 0) [] := ⟨World.ownsRow_nil _ _ _ _, fun z h => absurd h List.not_mem_nil⟩
theorem Hr.keep0 {w w' : World} {base : Nat} {v : Value} {ps : List (Rc × Value)} (h : Hr w base v ps) (k : Kp (fun _ => False) w w') : Hr w' base v ps :=
  ⟨ownsRow_keep h.1 k (fun _ _ e => e), fun z hz => ⟨ownsRow_keep (h.2 z hz).1 k (fun _ _ e => e), (h.2 z hz).2⟩⟩
theorem Hr.keep {S : Nat → Prop} {w w' : World} {base : Nat} {v : Value} {ps : List (Rc × Value)} (h : Hr w base v ps) (k : Kp S w w') (hS : ∀ b, base ≤ b → ¬ S b) : Hr w' base v ps :=
  ⟨ownsRow_keep h.1 k (fun b hb => hS b (ownBlock_lt h.1 hb).1), fun z hz => ⟨ownsRow_keep (h.2 z hz).1 k (fun b hb => hS b (ownBlock_lt (h.2 z hz).1 hb).1), (h.2 z hz).2⟩⟩
theorem Hr.base {w : World} {base base' : Nat} {v : Value} {ps : List (Rc × Value)} (h : Hr w base v ps) (hb : base' ≤ base) : Hr w base' v ps :=
  ⟨ownsRow_base h.1 hb, fun z hz => ⟨ownsRow_base (h.2 z hz).1 hb, (h.2 z hz).2⟩⟩
theorem Hr.app {w w' : World} {base : Nat} {v v' u : Value} {ps : List (Rc × Value)} {r : Rc} (h : Hr w base v ps) (hu : Ow w base u r.b) (hx : ∀ x ∈ r.b, x < 256) (hub : ∀ b, v.ownBlock = some b → u.ownBlock ≠ some b)
    (o : w'.ownsRow base 97 3 v' (ps.length + 1) (hfl ps ++ [.int .i64 (r.n : Int), .int .i64 (r.i : Int), u])) (k : Kp (fun b => v.ownBlock = some b) w w') (hv : v'.ownBlock = v.ownBlock ∨ v'.ownBlock = some w.heap.size) : Hr w' base v' (ps ++ [(r, u)]) := by
  have key : ∀ x z, Ow w base z x → (∀ b, v.ownBlock = some b → z.ownBlock ≠ some b) → Ow w' base z x ∧ ∀ b, v'.ownBlock = some b → z.ownBlock ≠ some b := fun x z ho hb => by
    refine ⟨ownsRow_keep ho k (fun g e e2 => hb g e2 e), fun b e e2 => ?_⟩
    rcases hv with e9 | e9
    · exact hb b (e9.symm.trans e) e2
    · rw [e9] at e
      have := (ownBlock_lt ho e2).2
      injection e with e
      omega
  refine ⟨by rw [List.length_append, hfl_app]; exact o, fun z hz => ?_⟩
  rcases List.mem_append.1 hz with hz | hz
  · obtain ⟨h1, h2, h3⟩ := h.2 z hz
    obtain ⟨h4, h5⟩ := key _ _ h1 h3
    exact ⟨h4, h2, h5⟩
  · rw [List.mem_singleton.1 hz]
    obtain ⟨h4, h5⟩ := key _ _ hu hub
    exact ⟨h4, hx, h5⟩

theorem infoH0 : (Tryz.prog.info? 97).map (fun i => (i.zero.map (·.cells.size), i.size, i.bytes)) = some (some 3, 3, 40) := by kernel_rfl
theorem infoH : ∃ i z, Tryz.prog.info? 97 = some i ∧ i.zero = some z ∧ i.size = 3 ∧ i.bytes = 40 ∧ z.cells.size = 3 := by
  obtain ⟨i, hi, he⟩ := Option.map_eq_some_iff.1 infoH0
  simp only [Prod.mk.injEq] at he
  obtain ⟨h1, h2, h3⟩ := he
  obtain ⟨z, hz, h4⟩ := Option.map_eq_some_iff.1 h1
  exact ⟨i, z, hi, hz, h2, h3, h4⟩
/-- append of one -/
theorem run_app_held (w : World) (base : Nat) (v : Value) (n : Nat) (xs : List Value) (hown : w.ownsRow base 97 3 v n xs) (g : Nat) (a b c : Value) (h1 : a.oneCell' = true ∧ b.oneCell' = true ∧ c.oneCell' = true) (c0 : w.cell? ⟨g, 0, none⟩ = some a) (c1 : w.cell? ⟨g, 1, none⟩ = some b) (c2 : w.cell? ⟨g, 2, none⟩ = some c) (hlen : n ≤ 100000) (hbase : base ≤ w.heap.size) :
    ∃ v' w', (Builtin.append_ #[47, 47] 47 #[v, .slice (some ⟨g, 0, none⟩) 1 1]).run Tryz.prog w = .ok v' w' ∧ w'.ownsRow base 97 3 v' (n + 1) (xs ++ [a, b, c]) ∧ Kp (fun b => v.ownBlock = some b) w w' ∧ (v'.ownBlock = v.ownBlock ∨ v'.ownBlock = some w.heap.size) := by
  obtain ⟨ti, tz, hi0, hz0, hz1, hz2, hz3⟩ := infoH
  obtain ⟨v', w', hrun, h2, h3, h4⟩ := run_append_own_src (P := Tryz.prog) w base 47 47 47 97 ti tz 3 40 Tryz.underlying47 hi0 hz0 hz1 hz2 hz3 (by decide) v n xs hown _ 1 [a, b, c]
    (Src.ofSlice w Tryz.underlying47 ⟨g, 0, none⟩ 1 1 [a, b, c] (by simp) (fun j z hj => by
      rw [Addr.add_mid, Nat.zero_add]
      match j, hj with
      | 0, hj => simp at hj; subst hj; exact c0
      | 1, hj => simp at hj; subst hj; exact c1
      | 2, hj => simp at hj; subst hj; exact c2) (fun z hz => by
      simp at hz
      rcases hz with rfl | rfl | rfl
      · exact h1.1
      · exact h1.2.1
      · exact h1.2.2)) (by unfold maxLen; omega) (by omega) hbase
  exact ⟨v', w', hrun, h2, grownBy_kp h3, h4⟩

/-- the records that are held, in order -/
def hldL (h : List Rc) (ss : List K3) : List Rc := ss.filterMap fun x => if x.k = 1 then (stS h).1 x else none
theorem hldL_snoc (h : List Rc) (ss : List K3) (x : K3) : hldL h (ss ++ [x]) = hldL h ss ++ (match (if x.k = 1 then (stS h).1 x else none) with | some o => [o] | none => []) := by
  unfold hldL
  rw [List.filterMap_append]
  congr 1
  cases hx : (if x.k = 1 then (stS h).1 x else none) <;> simp [hx]
theorem srt3_mem (l : List K3) (x : K3) : x ∈ srt3 l ↔ x ∈ l := (List.mergeSort_perm _ _).mem_iff
theorem take_snoc3 (l : List K3) (j : Nat) (hj : j < l.length) : l.take (j + 1) = l.take j ++ [l.getD j default] := by
  rw [List.take_add_one, List.getD_eq_getElem?_getD, List.getElem?_eq_getElem hj]
  rfl

set_option maxRecDepth 100000 in
set_option maxHeartbeats 1600000 in
/-- what the drawn region asks of its clone and its append -/
theorem held_step {y wr : World} {base : Nat} {v : Value} {ps : List (Rc × Value)} {r : Rc} (hH : Hr wr base v ps) (hb : base ≤ wr.heap.size) (hn : ps.length ≤ 100000) (q : Nat) (p : Option Addr) (cp : Nat) (k0 : Kp (fun _ => False) wr y) (hq : wr.heap.size ≤ q ∧ q < y.heap.size)
    (c1 : y.cell? ⟨q, 1, none⟩ = some (.int .i64 (r.n : Int))) (c2 : y.cell? ⟨q, 2, none⟩ = some (.int .i64 (r.i : Int))) (c4 : y.cell? ⟨q, 4, none⟩ = some (.slice p r.b.length cp)) (hr : Rb y p r.b.length r.b) (hg : r.b.length ≤ 1980) :
    Calls Tryz.prog 13 #[.slice p r.b.length cp] y fun e w9 => ∃ pu cu xh v2 w2, e = .returned (.slice pu r.b.length cu) ∧ (w9.cell? ⟨q, 1, none⟩ = some (.int .i64 (r.n : Int)) ∧ w9.cell? ⟨q, 2, none⟩ = some (.int .i64 (r.i : Int)) ∧ w9.cell? ⟨q, 4, none⟩ = some (.slice p r.b.length cp)) ∧ xh = w9.heap.size ∧
      ((w9.alloc (.cells #[.int .i64 (r.n : Int), .int .i64 (r.i : Int), .slice pu r.b.length cu] 97)).cell? ⟨q, 1, none⟩ = some (.int .i64 (r.n : Int)) ∧ (w9.alloc (.cells #[.int .i64 (r.n : Int), .int .i64 (r.i : Int), .slice pu r.b.length cu] 97)).cell? ⟨q, 2, none⟩ = some (.int .i64 (r.i : Int)) ∧ (w9.alloc (.cells #[.int .i64 (r.n : Int), .int .i64 (r.i : Int), .slice pu r.b.length cu] 97)).cell? ⟨q, 4, none⟩ = some (.slice p r.b.length cp)) ∧
      (Builtin.append_ #[47, 47] 47 #[v, .slice (some ⟨xh, 0, none⟩) 1 1]).run Tryz.prog (w9.alloc (.cells #[.int .i64 (r.n : Int), .int .i64 (r.i : Int), .slice pu r.b.length cu] 97)) = .ok v2 w2 ∧
      (w2.cell? ⟨q, 1, none⟩ = some (.int .i64 (r.n : Int)) ∧ w2.cell? ⟨q, 2, none⟩ = some (.int .i64 (r.i : Int)) ∧ w2.cell? ⟨q, 4, none⟩ = some (.slice p r.b.length cp)) ∧
      (∃ u, Hr w2 base v2 (ps ++ [(r, u)])) ∧ Kp (fun b => v.ownBlock = some b) wr w2 := by
  refine (clone_any p r.b.length cp r.b y hr (show r.b.length ≤ 140737488355328 by omega)).mono ?_
  rintro e9 w9 ⟨u, rfl, k9, o9⟩
  obtain ⟨pu, cu, rfl⟩ := own_form o9
  obtain ⟨w8, hw8⟩ : ∃ z, z = w9.alloc (.cells #[.int .i64 (r.n : Int), .int .i64 (r.i : Int), .slice pu r.b.length cu] 97) := ⟨_, rfl⟩
  have k8 : Kp (fun _ => False) w9 w8 := by rw [hw8]; exact (Kp.refl _ _).alloc _
  have l8 : Lv w8 w9.heap.size [.int .i64 (r.n : Int), .int .i64 (r.i : Int), .slice pu r.b.length cu] := by rw [hw8]; exact Lv.new w9 _ _
  have kr8 : Kp (fun _ => False) wr w8 := (k0.trans k9 (fun _ _ e => e)).trans k8 (fun _ _ e => e)
  have h8 := hH.keep0 kr8
  have z0 := k0.size
  have z9 := k9.size
  have z8 := k8.size
  obtain ⟨v2, w2, hrun, ho, kp, hv⟩ := run_app_held w8 base v ps.length (hfl ps) h8.1 w9.heap.size (.int .i64 (r.n : Int)) (.int .i64 (r.i : Int)) (.slice pu r.b.length cu) ⟨rfl, rfl, rfl⟩ (l8.cell (j := 0) rfl) (l8.cell (j := 1) rfl) (l8.cell (j := 2) rfl) hn (by omega)
  have hvq : ∀ x, wr.heap.size ≤ x → ¬ v.ownBlock = some x := fun x hx e => by
    have := (ownBlock_lt hH.1 e).2
    omega
  have k9c : ∀ j u, y.cell? ⟨q, j, none⟩ = some u → w9.cell? ⟨q, j, none⟩ = some u := fun j u hc => k9.cellv hc id
  have k8c : ∀ j u, y.cell? ⟨q, j, none⟩ = some u → w8.cell? ⟨q, j, none⟩ = some u := fun j u hc => k8.cellv (k9c j u hc) id
  have k2c : ∀ j u, y.cell? ⟨q, j, none⟩ = some u → w2.cell? ⟨q, j, none⟩ = some u := fun j u hc => kp.cellv (k8c j u hc) (hvq q hq.1)
  have o8 : Ow w8 base (.slice pu r.b.length cu) r.b := ownsRow_base (ownsRow_keep o9 k8 (fun _ _ e => e)) (by omega)
  refine ⟨pu, cu, _, v2, w2, rfl, ⟨k9c 1 _ c1, k9c 2 _ c2, k9c 4 _ c4⟩, rfl, ?_, ?_, ⟨k2c 1 _ c1, k2c 2 _ c2, k2c 4 _ c4⟩, ⟨_, h8.app o8 hr.byte (fun b hb e => ?_) ho kp hv⟩, (kr8.mono (fun _ _ e => e.elim)).trans kp (fun _ _ e => e)⟩
  · rw [← hw8]; exact ⟨k8c 1 _ c1, k8c 2 _ c2, k8c 4 _ c4⟩
  · rw [← hw8]; exact hrun
  · have h1 := (ownBlock_lt o9 e).1
    have h2 := (ownBlock_lt hH.1 hb).2
    omega

set_option maxRecDepth 100000 in
set_option maxHeartbeats 6400000 in
theorem held_ok {w : World} {Z : Nat → Prop} {sh mp g : Nat} {h : List Rc} (x : Sk w Z sh mp g h) :
    Calls Tryz.prog 16 #[.pointer (some ⟨sh, 0, none⟩)] w fun e w' => ∃ v ps ss, e = .returned v ∧ Kp (fun _ => False) w w' ∧ Hr w' w.heap.size v ps ∧ Ths h ss ∧ ps.map Prod.fst = hldL h (srt3 ss) := by
  have c0 : w.cell? ⟨sh, 0, none⟩ = some (.pointer (some ⟨g, 0, none⟩)) := x.l.cell (j := 0) rfl
  have HM : Hid (Calls _ _ _ w _) := smade_ok c0
  have HA : Hid (Calls _ _ _ w _) := sall_ok x
  have HX : Hid (Sk w Z sh mp g h) := x
  clear x
  go_enter Tryz.func16, Tryz.ntmps16
  go_wp2_with fail
  refine HM.out.mono ?_
  rintro e9 w9 ⟨rfl, hw9⟩
  have hw8 := hw9.symm
  subst hw8
  clear hw9 HM
  go_wp2_with fail
  refine HA.out.mono ?_
  rintro e9 w2 ⟨v2, ss, G, rfl, k2, r2, hT, hG⟩
  have HLn : Hid ((srt3 ss).length ≤ 1000) := by rw [show Hid ((srt3 ss).length ≤ 1000) = ((srt3 ss).length ≤ 1000) from rfl, srt3_len]; exact hT.len HX.out
  obtain ⟨L, hL⟩ : ∃ L, L = srt3 ss := ⟨_, rfl⟩
  rw [← hL] at r2 HLn
  obtain ⟨pp, cc, rfl, hc⟩ := r2
  have HR : Hid (∀ j, j < L.length → ∃ g o, pp = some ⟨g, o, none⟩ ∧ w.heap.size ≤ g ∧ ∀ r u, (cE G (L.getD j default))[r]? = some u → w2.cell? ⟨g, o + j * 5 + r, none⟩ = some u) := hc
  have HGo : Hid (∀ j, j < L.length → ∃ o, (stS h).1 (L.getD j default) = some o ∧ (L.getD j default).k = (o.k : Int) ∧ (L.getD j default).n = (o.n : Int) ∧ (L.getD j default).i = (o.i : Int) ∧ (G (L.getD j default)).e = (o.e : Int) ∧ (G (L.getD j default)).n = o.b.length ∧ Rb w2 (G (L.getD j default)).p o.b.length o.b ∧ o.b.length ≤ 1980) := fun j hj => by
    have hm : L.getD j default ∈ ss := by
      rw [← srt3_mem, ← hL, List.getD_eq_getElem?_getD, List.getElem?_eq_getElem hj]
      exact List.getElem_mem hj
    obtain ⟨hw, o, ho⟩ := (hT.2 _).1 hm
    obtain ⟨a1, a2, a3, a4, a5, a6, a7, a8⟩ := hG _ o hw ho
    exact ⟨o, ho, a1, a2, a3, a4, a5, a6.keep0 k2, a8.bl⟩
  have HF : Hid (Ths h ss ∧ L = srt3 ss ∧ Kp (fun _ => False) w w2) := ⟨hT, hL, k2⟩
  obtain ⟨n, hn⟩ : ∃ n, n = L.length := ⟨_, rfl⟩
  have HN : Hid (n = L.length ∧ n ≤ 1000) := ⟨hn, by rw [hn]; exact HLn.out⟩
  rw [← hn] at HR HGo
  rw [← hn]
  clear hc hG hT hL k2 HLn HA HX hn
  go_wp2_with fail
  go_loopg [3, 14] n (fun gk v iv wr => ∃ (j : Nat) (v1 : Value) (ps : List (Rc × Value)), j ≤ n ∧ gk = n - j ∧ v = v1 ∧ iv = .int .i64 (j : Int) ∧ Hid (Kp (fun _ => False) w2 wr ∧ Hr wr w2.heap.size v1 ps ∧ ps.map Prod.fst = hldL h (L.take j)))
  case atStart => exact ⟨0, _, [], Nat.zero_le _, rfl, rfl, rfl, Kp.refl _ _, Hr.nil _ _, rfl⟩
  case round =>
    obtain ⟨j, v1, ps, hj, rfl, hvv, rfl, HK⟩ := hrel
    have hv2 := hvv.symm
    subst hv2
    clear hvv
    by_cases hlt : j < n
    · have hlt2 : (j : Int) < (n : Int) := by omega
      obtain ⟨g0, o0, hpp, hz0, hcs⟩ := HR.out j hlt
      obtain ⟨o, ho, a1, a2, a3, a4, a5, a6, a7⟩ := HGo.out j hlt
      have hjL : j < L.length := by rw [← HN.out.1]; exact hlt
      have HSn : Hid (hldL h (L.take (j + 1)) = hldL h (L.take j) ++ (match (if (L.getD j default).k = 1 then (stS h).1 (L.getD j default) else none) with | some o => [o] | none => [])) := by
        rw [take_snoc3 L j hjL, hldL_snoc]; exact rfl
      obtain ⟨y, hy⟩ : ∃ y, y = L.getD j default := ⟨_, rfl⟩
      rw [← hy] at ho a1 a2 a3 a4 a5 a6 hcs HSn
      obtain ⟨⟨ge, gp, gn, gc⟩, hgy⟩ : ∃ z, z = G y := ⟨_, rfl⟩
      have hk : Kp (fun _ => False) w2 wr := HK.out.1
      have q0 := hk.cellv (hcs 0 _ rfl) id
      have q1 := hk.cellv (hcs 1 _ rfl) id
      have q2 := hk.cellv (hcs 2 _ rfl) id
      have q3 := hk.cellv (hcs 3 _ rfl) id
      have q4 := hk.cellv (hcs 4 _ rfl) id
      rw [← hgy] at q3 q4 a4 a5 a6
      dsimp only at q3 q4 a4 a5 a6
      rw [a1] at q0
      rw [a2] at q1
      rw [a3] at q2
      rw [a4] at q3
      rw [a5] at q4
      rw [Nat.add_zero] at q0
      subst hpp
      have HO : Hid ((stS h).1 y = some o ∧ (y.k = (o.k : Int)) ∧ Rb wr gp o.b.length o.b ∧ o.b.length ≤ 1980 ∧ j < n ∧ n ≤ 1000) := ⟨ho, a1, a6.keep0 hk, a7, hlt, HN.out.2⟩
      clear hcs ho a1 a2 a3 a4 a5 a6 a7 hgy hk hy hlt hz0 hjL
      have hw1 : wrap64 ((j : Int) + 1) = ((j + 1 : Nat) : Int) := by have := HO.out.2.2.2.2; unfold wrap64; omega
      by_cases hk1 : o.k = 1
      · have hk2 : (o.k : Int) = 1 := by omega
        rw [hk2] at q0
        have HS2 : Hid (hldL h (L.take (j + 1)) = hldL h (L.take j) ++ [o]) := by
          show _ = _
          rw [HSn.out, HO.out.2.1, if_pos hk2, HO.out.1]
        clear HSn
        go_upto_region 8 with fail
        obtain ⟨wb, hwb⟩ : ∃ z, z = wr.alloc (.cells #[.int .i64 1, .int .i64 (o.n : Int), .int .i64 (o.i : Int), .int .i64 (o.e : Int), .slice gp o.b.length gc] 85) := ⟨_, rfl⟩
        rw [← hwb]
        have kb : Kp (fun _ => False) wr wb := by rw [hwb]; exact (Kp.refl _ _).alloc _
        have lb : Lv wb wr.heap.size [.int .i64 1, .int .i64 (o.n : Int), .int .i64 (o.i : Int), .int .i64 (o.e : Int), .slice gp o.b.length gc] := by rw [hwb]; exact Lv.new wr _ _
        have hzb : wb.heap.size = wr.heap.size + 1 := by rw [hwb]; simp
        have kd : Kp (fun _ => False) wb wb.drew := (Kp.refl _ _).drew
        have ld : Lv wb.drew wr.heap.size [.int .i64 1, .int .i64 (o.n : Int), .int .i64 (o.i : Int), .int .i64 (o.e : Int), .slice gp o.b.length gc] := lb.keep kd id
        have hlen : ps.length ≤ 1000 := by
          have h1 := congrArg List.length HK.out.2.2
          rw [List.length_map] at h1
          have h2 : (hldL h (L.take j)).length ≤ (L.take j).length := List.length_filterMap_le _ _
          rw [List.length_take] at h2
          have := HO.out.2.2.2.2
          omega
        have hst := held_step (y := wb.drew) HK.out.2.1 HK.out.1.size (by omega) wr.heap.size gp gc (kb.trans kd (fun _ _ e => e)) ⟨Nat.le_refl _, by show wr.heap.size < wb.heap.size; omega⟩ (ld.cell (j := 1) rfl) (ld.cell (j := 2) rfl) (ld.cell (j := 4) rfl) (HO.out.2.2.1.keep0 (kb.trans kd (fun _ _ e => e))) HO.out.2.2.2.1
        refine hd8_region ⟨by kernel_rfl, by kernel_rfl, by kernel_rfl, by kernel_rfl, by kernel_rfl, by kernel_rfl, by kernel_rfl, by kernel_rfl, by kernel_rfl, by kernel_rfl, by kernel_rfl, by kernel_rfl, by kernel_rfl, by kernel_rfl, by kernel_rfl, by kernel_rfl, by kernel_rfl, by kernel_rfl, by kernel_rfl, by kernel_rfl, by kernel_rfl, by kernel_rfl, by kernel_rfl⟩ wr.heap.size v1 (o.n : Int) (o.i : Int) gp o.b.length gc none 0 undef 0 (fun d _ _ _ _ h => by cases d <;> exact h) (by rfl) (by rfl) (by rfl) ⟨ld.cell (j := 1) rfl, ld.cell (j := 2) rfl, ld.cell (j := 4) rfl⟩ (fun v2 wz => (∃ u, Hr wz w2.heap.size v2 (ps ++ [(o, u)])) ∧ Kp (fun b => v1.ownBlock = some b) wr wz) hst ?_
        rintro pu cu xh v9 w9 ⟨⟨u, hu⟩, k9⟩
        have HF9 : Hid (Kp (fun _ => False) w2 w9 ∧ Hr w9 w2.heap.size v9 (ps ++ [(o, u)]) ∧ (ps ++ [(o, u)]).map Prod.fst = hldL h (L.take (j + 1))) := by
          refine ⟨HK.out.1.trans k9 (fun b hb e => ?_), hu, ?_⟩
          · have := (ownBlock_lt HK.out.2.1.1 e).1
            omega
          · rw [List.map_append, HK.out.2.2, HS2.out]
            rfl
        have HJ : Hid (j < n) := HO.out.2.2.2.2.1
        clear hst k9 hu kd ld kb lb hwb hzb hlen q0 q1 q2 q3 q4 HK HO HS2 hlt2
        simp only [Act.put, List.setIfInBounds_toArray, List.set_cons_succ, List.set_cons_zero]
        go_wp2
        go_roundg (n - (j + 1))
        case rel => exact ⟨j + 1, v9, ps ++ [(o, u)], HJ.out, rfl, rfl, by first | rw [hw1] | simp, HF9.out⟩
        case measure => have := HJ.out; omega
      · have hk2 : ¬ (o.k : Int) = 1 := by omega
        have hk3 : ((o.k : Int) == 1) = false := by simp [hk2]
        have HS2 : Hid (hldL h (L.take (j + 1)) = hldL h (L.take j)) := by
          show _ = _
          rw [HSn.out, HO.out.2.1, if_neg hk2]
          exact List.append_nil _
        clear HSn
        go_wp2_with fail
        obtain ⟨wb, hwb⟩ : ∃ z, z = wr.alloc (.cells #[.int .i64 (o.k : Int), .int .i64 (o.n : Int), .int .i64 (o.i : Int), .int .i64 (o.e : Int), .slice gp o.b.length gc] 85) := ⟨_, rfl⟩
        rw [← hwb]
        have kb : Kp (fun _ => False) wr wb := by rw [hwb]; exact (Kp.refl _ _).alloc _
        have HF9 : Hid (Kp (fun _ => False) w2 wb ∧ Hr wb w2.heap.size v1 ps ∧ ps.map Prod.fst = hldL h (L.take (j + 1))) := ⟨HK.out.1.trans kb (fun _ _ e => e), HK.out.2.1.keep0 kb, by rw [HS2.out]; exact HK.out.2.2⟩
        have HJ : Hid (j < n) := HO.out.2.2.2.2.1
        clear kb hwb q0 q1 q2 q3 q4 HK HO HS2 hlt2
        go_roundg (n - (j + 1))
        case rel => exact ⟨j + 1, v1, ps, HJ.out, rfl, rfl, by first | rw [hw1] | simp, HF9.out⟩
        case measure => have := HJ.out; omega
    · have hjn : j = n := by omega
      subst hjn
      have hlt2 : ¬ ((j : Int) < (j : Int)) := by omega
      have HE : Hid (Ths h ss ∧ Kp (fun _ => False) w wr ∧ Hr wr w.heap.size v1 ps ∧ ps.map Prod.fst = hldL h (srt3 ss)) := by
        refine ⟨HF.out.1, HF.out.2.2.trans HK.out.1 (fun _ _ e => e), HK.out.2.1.base HF.out.2.2.size, ?_⟩
        rw [HK.out.2.2, ← HF.out.2.1, List.take_of_length_le (Nat.le_of_eq HN.out.1.symm)]
      clear HK HR HGo HF
      go_wp2
      go_ret
      exact ⟨v1, rfl, HE.out.2.1, ps, HE.out.2.2.1, ss, HE.out.1, HE.out.2.2.2⟩
end Go.Proofs.YtmooddbhcccicaaGreatDoor
