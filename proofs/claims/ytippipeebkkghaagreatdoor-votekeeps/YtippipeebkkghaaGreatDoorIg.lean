/- A shelf's stock in memory: take. -/
import Derived.Test.YtippipeebkkghaaGreatDoorIf
namespace Go.Proofs.YtippipeebkkghaaGreatDoor
set_option linter.unusedVariables false
set_option linter.unusedSimpArgs false
open Go.RowKit Go.Deep Go.Maps

set_option maxRecDepth 100000 in
/-- the map behind an update, as a function of the world -/
theorem put_fun (mp : Nat) (a : K3) (hw : wf3 a) (u : Value) : ∃ mu : World → World, ∀ z c T, Px3 z mp c T → c ≤ 5000 → (Instr.mapUpdate 93 (.map (some mp)) (pv3 a) u).run Tryz.prog z = .ok () (mu z) ∧ Px3 (mu z) mp (c + (if (T a).isSome then 0 else 1)) (upd3 T a u) ∧ Kp (fun b => b = mp) z (mu z) := by
  classical
  refine ⟨fun z => if h : ∃ w', (Instr.mapUpdate 93 (.map (some mp)) (pv3 a) u).run Tryz.prog z = .ok () w' then h.choose else z, fun z c T hp hc => ?_⟩
  obtain ⟨w', h1, h2, h3⟩ := put_px3 Tryz.underlying93 hp (by omega) hw u
  have hx : ∃ w', (Instr.mapUpdate 93 (.map (some mp)) (pv3 a) u).run Tryz.prog z = .ok () w' := ⟨w', h1⟩
  have e : hx.choose = w' := by
    have h9 := h1.symm.trans hx.choose_spec
    injection h9 with _ h9
    exact h9.symm
  dsimp only
  rw [dif_pos hx, e]
  exact ⟨h1, h2, h3⟩
set_option maxRecDepth 100000 in
/-- the map behind a delete, as a function of the world -/
theorem del_fun (mp : Nat) (a : K3) (hw : wf3 a) (ty : TypeId) : ∃ mu : World → World, ∀ z c T, Px3 z mp c T → (Builtin.delete_ #[93, 120] ty #[.map (some mp), pv3 a]).run Tryz.prog z = .ok (.tuple #[]) (mu z) ∧ Px3 (mu z) mp (c - (if (T a).isSome then 1 else 0)) (del3 T a) ∧ Kp (fun b => b = mp) z (mu z) := by
  classical
  refine ⟨fun z => if h : ∃ w', (Builtin.delete_ #[93, 120] ty #[.map (some mp), pv3 a]).run Tryz.prog z = .ok (.tuple #[]) w' then h.choose else z, fun z c T hp => ?_⟩
  obtain ⟨D, d1, d2⟩ := hp
  obtain ⟨w', h1, h3, hg'⟩ := d1.drop p3Law Tryz.underlying93 (pk3_key hw) ty
  have h4 := d2.del (d1.tidy p3Law) hw
  have hx : ∃ w', (Builtin.delete_ #[93, 120] ty #[.map (some mp), pv3 a]).run Tryz.prog z = .ok (.tuple #[]) w' := ⟨w', h1⟩
  have e : hx.choose = w' := by
    have h9 := h1.symm.trans hx.choose_spec
    injection h9 with _ h9
    exact h9.symm
  dsimp only
  rw [dif_pos hx, e]
  exact ⟨h1, ⟨_, by rw [← h4.size]; exact own_size3 h3, h4⟩, (grownBy_kp hg'.grown).mono (fun b _ e => by cases e; rfl)⟩

theorem Sk.after {S : Nat → Prop} {w0 wf : World} {Z : Nat → Prop} {sh mp g : Nat} {h : List Rc} (x : Sk w0 Z sh mp g h) {r : Rc} {p : Option Addr} {cp c' : Nat} {T T' : K3 → Option Value} {t : Int}
    (hV : ∀ x, wf3 x → ((stS h).1 x = none → T x = none) ∧ ∀ o, (stS h).1 x = some o → ∃ p cp, T x = some (rcV o p cp) ∧ Rb w0 p o.b.length o.b ∧ ∀ a, p = some a → Z a.block)
    (hk : Kp S w0 wf) (hS : ∀ b, Z b → ¬ S b) (hl : Lv wf sh [.pointer (some ⟨g, 0, none⟩), .map (some mp), .int .i64 t]) (ht : t = behS (stS h).1 (stS h).2 r) (hc : c' ≤ h.length + 1) (hm : Px3 wf mp c' T')
    (hT : T' = upd3 T (subS r) (rcV r p cp) ∧ staysS r = true ∨ T' = del3 T (subS r) ∧ staysS r = false) (hb : Rb w0 p r.b.length r.b) (hz : ∀ a, p = some a → Z a.block) (hg : GoodR r) (hn : h.length + 1 ≤ 1000) : Sk wf Z sh mp g (h ++ [r]) := by
  have e2 : (stS (h ++ [r])).2 = t := by rw [stS_snoc, ht]
  have e1 : (stS (h ++ [r])).1 = putS (stS h).1 r := by rw [stS_snoc]
  refine ⟨by rw [e2]; exact hl, ⟨c', T', by rw [List.length_append]; exact hc, hm, fun y hy => ?_⟩, fun q hq => ?_, by rw [List.length_append]; exact hn⟩
  · rw [e1]
    unfold putS
    by_cases e : y = subS r
    · rw [if_pos e]
      rcases hT with ⟨rfl, hs⟩ | ⟨rfl, hs⟩
      · rw [hs]
        refine ⟨fun h9 => (by simp at h9), fun o ho => ?_⟩
        have ho' : r = o := by simpa using ho
        subst ho'
        exact ⟨p, cp, by unfold upd3; rw [if_pos e], hb.keep hk (fun a ha _ => hS _ (hz a ha)), hz⟩
      · rw [hs]
        exact ⟨fun _ => by unfold del3; rw [if_pos e], fun o ho => by simp at ho⟩
    · rw [if_neg e]
      have hy2 : T' y = T y := by
        rcases hT with ⟨rfl, hs⟩ | ⟨rfl, hs⟩
        · unfold upd3; rw [if_neg e]
        · unfold del3; rw [if_neg e]
      rw [hy2]
      refine ⟨(hV y hy).1, fun o ho => ?_⟩
      obtain ⟨p2, cp2, b1, b2, b3⟩ := (hV y hy).2 o ho
      exact ⟨p2, cp2, b1, b2.keep hk (fun a ha _ => hS _ (b3 a ha)), b3⟩
  · rcases List.mem_append.1 hq with hq | hq
    · exact x.g q hq
    · have : q = r := by simpa using hq
      rw [this]; exact hg

set_option maxRecDepth 100000 in
set_option maxHeartbeats 3200000 in
theorem take_ok {w : World} {Z : Nat → Prop} {sh mp g : Nat} {h : List Rc} (x : Sk w Z sh mp g h) (r : Rc) (p : Option Addr) (cp : Nat) (hr : Rb w p r.b.length r.b) (hg : GoodR r) (hn : h.length + 1 ≤ 1000) (hz : ∀ a, p = some a → Z a.block) (hd : sh ≠ mp ∧ ¬ Z sh ∧ ¬ Z mp) :
    Calls Tryz.prog 63 #[.pointer (some ⟨sh, 1, none⟩), rcV r p cp] w fun e w' => e = .returned (.tuple #[]) ∧ Kp (fun b => b = sh ∨ b = mp) w w' ∧ Sk w' Z sh mp g (h ++ [r]) := by
  obtain ⟨t, ht⟩ : ∃ t, t = behS (stS h).1 (stS h).2 r := ⟨_, rfl⟩
  obtain ⟨r0, hr0⟩ : ∃ r0, r0 = w.heap.size := ⟨_, rfl⟩
  obtain ⟨w0, hw0⟩ : ∃ y, y = w.alloc (.cells #[.int .i64 (r.k : Int), .int .i64 (r.n : Int), .int .i64 (r.i : Int), .int .i64 (r.e : Int), .slice p r.b.length cp] 122) := ⟨_, rfl⟩
  have HK0 : Hid (Kp (fun _ => False) w w0) := by rw [hw0]; exact (Kp.refl _ _).alloc _
  have HL0 : Hid (Lv w0 r0 [.int .i64 (r.k : Int), .int .i64 (r.n : Int), .int .i64 (r.i : Int), .int .i64 (r.e : Int), .slice p r.b.length cp]) := by rw [hw0, hr0]; exact Lv.new _ _ _
  have hltm : mp < w.heap.size := by obtain ⟨c, T, h1, h2, h3⟩ := x.m; exact h2.lt
  have HR : Hid (r0 ≠ sh ∧ r0 ≠ mp) := ⟨by have := x.l.lt (by simp); omega, by omega⟩
  have HD : Hid (sh ≠ mp ∧ ¬ Z sh ∧ ¬ Z mp) := hd
  have HG : Hid (GoodR r ∧ h.length + 1 ≤ 1000 ∧ wf3 (subS r) ∧ ∀ a, p = some a → Z a.block) := ⟨hg, hn, subS_wf hg, hz⟩
  have HB0 : Hid (Rb w0 p r.b.length r.b) := hr.keep0 HK0.out
  have HSk : Hid (Sk w0 Z sh mp g h) := x.keep HK0.out (fun e => e) (fun e => e) (fun _ _ e => e)
  have HBe : Hid (Calls Tryz.prog 82 #[.pointer (some ⟨sh, 1, none⟩), .agg #[.int .i64 (r.k : Int), .int .i64 (r.n : Int), .int .i64 (r.i : Int), .int .i64 (r.e : Int), .slice p r.b.length cp]] w0 fun e w' => e = .returned (.int .i64 t) ∧ Kp (fun _ => False) w0 w') := by rw [ht]; exact behind_ok HSk.out r p cp HB0.out hg
  have HSt : Hid (∀ u, Calls Tryz.prog 99 #[.agg #[.int .i64 (r.k : Int), .int .i64 (r.n : Int), .int .i64 (r.i : Int), .int .i64 (r.e : Int), .slice p r.b.length cp]] u fun e w' => e = .returned (.bool (staysS r)) ∧ Kp (fun _ => False) u w') := fun u => stays_ok r p cp u
  obtain ⟨sub, hsub⟩ : ∃ sub, sub = pv3 (subS r) := ⟨_, rfl⟩
  have HSu : Hid (∀ u, Calls Tryz.prog 100 #[.agg #[.int .i64 (r.k : Int), .int .i64 (r.n : Int), .int .i64 (r.i : Int), .int .i64 (r.e : Int), .slice p r.b.length cp]] u fun e w' => e = .returned sub ∧ Kp (fun _ => False) u w') := fun u => by rw [hsub]; exact subject_ok r p cp u
  obtain ⟨mu, hmu⟩ := put_fun mp (subS r) HG.out.2.2.1 (rcV r p cp)
  have HMu : Hid (∀ z c T, Px3 z mp c T → c ≤ 5000 → (Instr.mapUpdate 93 (.map (some mp)) sub (.agg #[.int .i64 (r.k : Int), .int .i64 (r.n : Int), .int .i64 (r.i : Int), .int .i64 (r.e : Int), .slice p r.b.length cp])).run Tryz.prog z = .ok () (mu z) ∧ Px3 (mu z) mp (c + (if (T (subS r)).isSome then 0 else 1)) (upd3 T (subS r) (rcV r p cp)) ∧ Kp (fun b => b = mp) z (mu z)) := by rw [hsub]; exact hmu
  obtain ⟨md, hmd⟩ := del_fun mp (subS r) HG.out.2.2.1 0
  have HMd : Hid (∀ z c T, Px3 z mp c T → (Builtin.delete_ #[93, 120] 0 #[.map (some mp), sub]).run Tryz.prog z = .ok (.tuple #[]) (md z) ∧ Px3 (md z) mp (c - (if (T (subS r)).isSome then 1 else 0)) (del3 T (subS r)) ∧ Kp (fun b => b = mp) z (md z)) := by rw [hsub]; exact hmd
  have HT : Hid (t = behS (stS h).1 (stS h).2 r) := ht
  show Calls Tryz.prog 63 #[.pointer (some ⟨sh, 1, none⟩), .agg #[.int .i64 (r.k : Int), .int .i64 (r.n : Int), .int .i64 (r.i : Int), .int .i64 (r.e : Int), .slice p r.b.length cp]] w _
  clear x hr hg hn hz hd ht hsub hmu hmd hltm
  go_enter Tryz.func63, Tryz.ntmps63
  go_upto_region 1 with fail
  rw [← hw0, ← hr0]
  clear hw0 hr0
  have y0 := HL0.out.cell (j := 0) rfl
  have y1 := HL0.out.cell (j := 1) rfl
  have y2 := HL0.out.cell (j := 2) rfl
  have y3 := HL0.out.cell (j := 3) rfl
  have y4 := HL0.out.cell (j := 4) rfl
  go_upto_region 2 with (go_at_call 82; refine HBe.out.mono ?_; rintro e9 w1 ⟨rfl, k1⟩; have HK1 : Hid (Kp (fun _ => False) w0 w1) := k1; have HL1 : Hid (Lv w1 sh [.pointer (some ⟨g, 0, none⟩), .map (some mp), .int .i64 (stS h).2]) := HSk.out.l.keep k1 id; have v2 : w1.cell? ⟨sh, 2, none⟩ = some (.int .i64 (stS h).2) := HL1.out.cell (j := 2) rfl; have f2 : w1.frozen? ⟨sh, 2, none⟩ = false := HL1.out.fz (j := 2) (show 2 < 3 by decide); clear k1)
  obtain ⟨w2, hw2⟩ : ∃ y, y = w1.setCell ⟨sh, 2, none⟩ (.int .i64 t) := ⟨_, rfl⟩
  have k2 : Kp (fun b => b = sh) w1 w2 := by rw [hw2]; exact kp_set
  have HK2 : Hid (Kp (fun b => b = sh) w0 w2) := (HK1.out.mono (fun _ _ e => e.elim)).trans k2 (fun _ _ e => e)
  have HL2 : Hid (Lv w2 sh [.pointer (some ⟨g, 0, none⟩), .map (some mp), .int .i64 t]) := by rw [hw2]; exact HL1.out.set1 2 _ (by simp)
  rw [← hw2]
  clear hw2 k2 v2 f2 y0 y1 y2 y3 y4
  have HLr2 : Hid (Lv w2 r0 [.int .i64 (r.k : Int), .int .i64 (r.n : Int), .int .i64 (r.i : Int), .int .i64 (r.e : Int), .slice p r.b.length cp]) := HL0.out.keep HK2.out HR.out.1
  have y0 := HLr2.out.cell (j := 0) rfl
  have y1 := HLr2.out.cell (j := 1) rfl
  have y2 := HLr2.out.cell (j := 2) rfl
  have y3 := HLr2.out.cell (j := 3) rfl
  have y4 := HLr2.out.cell (j := 4) rfl
  have HSt2 : Hid (Calls _ _ _ w2 _) := HSt.out w2
  go_wp2_with fail
  refine HSt2.out.mono ?_
  rintro e9 w3 ⟨rfl, k3⟩
  have HK3 : Hid (Kp (fun b => b = sh) w0 w3) := HK2.out.trans (k3.mono (fun _ _ e => e.elim)) (fun _ _ e => e)
  have HL3 : Hid (Lv w3 sh [.pointer (some ⟨g, 0, none⟩), .map (some mp), .int .i64 t]) := HL2.out.keep k3 id
  have HLr3 : Hid (Lv w3 r0 [.int .i64 (r.k : Int), .int .i64 (r.n : Int), .int .i64 (r.i : Int), .int .i64 (r.e : Int), .slice p r.b.length cp]) := HLr2.out.keep k3 id
  clear k3 y0 y1 y2 y3 y4 HSt2 HSt HBe
  obtain ⟨c, T, hc1, hc2, hc3⟩ := HSk.out.m
  have HP : Hid (c ≤ h.length ∧ Px3 w3 mp c T) := ⟨hc1, hc2.keep HK3.out (fun e => HD.out.1 e.symm)⟩
  have HV : Hid (∀ x, wf3 x → ((stS h).1 x = none → T x = none) ∧ ∀ o, (stS h).1 x = some o → ∃ p cp, T x = some (rcV o p cp) ∧ Rb w0 p o.b.length o.b ∧ ∀ a, p = some a → Z a.block) := hc3
  clear hc1 hc2 hc3
  cases hst : staysS r with
  | true =>
    have HS2 : Hid (∀ z, Kp (fun b => b = mp) w3 z → (∃ c T, Px3 z mp c T ∧ c ≤ 5000) → Kp (fun b => b = mp) w3 z ∧ z.cell? ⟨sh, 1, none⟩ = some (.map (some mp)) ∧ z.cell? ⟨r0, 0, none⟩ = some (.int .i64 (r.k : Int)) ∧ z.cell? ⟨r0, 1, none⟩ = some (.int .i64 (r.n : Int)) ∧ z.cell? ⟨r0, 2, none⟩ = some (.int .i64 (r.i : Int)) ∧ z.cell? ⟨r0, 3, none⟩ = some (.int .i64 (r.e : Int)) ∧ z.cell? ⟨r0, 4, none⟩ = some (.slice p r.b.length cp) ∧ (Instr.mapUpdate 93 (.map (some mp)) sub (.agg #[.int .i64 (r.k : Int), .int .i64 (r.n : Int), .int .i64 (r.i : Int), .int .i64 (r.e : Int), .slice p r.b.length cp])).run Tryz.prog z = .ok () (mu z)) := fun z k hp => by
      obtain ⟨c', T', h1, h2⟩ := hp
      refine ⟨k, k.cellv (HL3.out.cell (j := 1) rfl) HD.out.1, k.cellv (HLr3.out.cell (j := 0) rfl) HR.out.2, k.cellv (HLr3.out.cell (j := 1) rfl) HR.out.2, k.cellv (HLr3.out.cell (j := 2) rfl) HR.out.2, k.cellv (HLr3.out.cell (j := 3) rfl) HR.out.2, k.cellv (HLr3.out.cell (j := 4) rfl) HR.out.2, (HMu.out z c' T' h1 h2).1⟩
    have HSf : Hid (∀ z, Kp (fun _ => False) w3 z → Kp (fun b => b = mp) w3 z ∧ z.cell? ⟨sh, 1, none⟩ = some (.map (some mp)) ∧ z.cell? ⟨r0, 0, none⟩ = some (.int .i64 (r.k : Int)) ∧ z.cell? ⟨r0, 1, none⟩ = some (.int .i64 (r.n : Int)) ∧ z.cell? ⟨r0, 2, none⟩ = some (.int .i64 (r.i : Int)) ∧ z.cell? ⟨r0, 3, none⟩ = some (.int .i64 (r.e : Int)) ∧ z.cell? ⟨r0, 4, none⟩ = some (.slice p r.b.length cp) ∧ (Instr.mapUpdate 93 (.map (some mp)) sub (.agg #[.int .i64 (r.k : Int), .int .i64 (r.n : Int), .int .i64 (r.i : Int), .int .i64 (r.e : Int), .slice p r.b.length cp])).run Tryz.prog z = .ok () (mu z)) := fun z k => HS2.out z (k.mono (fun _ _ e => e.elim)) ⟨c, T, HP.out.2.keep k id, by have := HP.out.1; have := HG.out.2.1; omega⟩
    have HSm : Hid (∀ z, Kp (fun _ => False) w3 z → Kp (fun b => b = mp) w3 (mu z) ∧ (mu z).cell? ⟨sh, 1, none⟩ = some (.map (some mp)) ∧ (mu z).cell? ⟨r0, 0, none⟩ = some (.int .i64 (r.k : Int)) ∧ (mu z).cell? ⟨r0, 1, none⟩ = some (.int .i64 (r.n : Int)) ∧ (mu z).cell? ⟨r0, 2, none⟩ = some (.int .i64 (r.i : Int)) ∧ (mu z).cell? ⟨r0, 3, none⟩ = some (.int .i64 (r.e : Int)) ∧ (mu z).cell? ⟨r0, 4, none⟩ = some (.slice p r.b.length cp) ∧ (Instr.mapUpdate 93 (.map (some mp)) sub (.agg #[.int .i64 (r.k : Int), .int .i64 (r.n : Int), .int .i64 (r.i : Int), .int .i64 (r.e : Int), .slice p r.b.length cp])).run Tryz.prog (mu z) = .ok () (mu (mu z))) := fun z k => by
      obtain ⟨m1, m2, m3⟩ := HMu.out z c T (HP.out.2.keep k id) (by have := HP.out.1; have := HG.out.2.1; omega)
      exact HS2.out _ ((k.mono (fun _ _ e => e.elim)).trans m3 (fun _ _ e => e)) ⟨_, _, m2, by have := HP.out.1; have := HG.out.2.1; split <;> omega⟩
    have HTr : Hid (∀ u u' : World, Kp (fun _ => False) w3 u → Kp (fun _ => False) u u' → Kp (fun _ => False) w3 u') := fun u u' h1 h2 => h1.trans h2 (fun _ _ e => e)
    clear HS2
    go_simp
    go_upto_region 3 with fail
    have kd : Kp (fun _ => False) w3 w3.drew := (Kp.refl _ _).drew
    go_region_held3 (fun z => Kp (fun b => b = mp) w3 z ∧ z.cell? ⟨sh, 1, none⟩ = some (.map (some mp)) ∧ z.cell? ⟨r0, 0, none⟩ = some (.int .i64 (r.k : Int)) ∧ z.cell? ⟨r0, 1, none⟩ = some (.int .i64 (r.n : Int)) ∧ z.cell? ⟨r0, 2, none⟩ = some (.int .i64 (r.i : Int)) ∧ z.cell? ⟨r0, 3, none⟩ = some (.int .i64 (r.e : Int)) ∧ z.cell? ⟨r0, 4, none⟩ = some (.slice p r.b.length cp) ∧ (Instr.mapUpdate 93 (.map (some mp)) sub (.agg #[.int .i64 (r.k : Int), .int .i64 (r.n : Int), .int .i64 (r.i : Int), .int .i64 (r.e : Int), .slice p r.b.length cp])).run Tryz.prog z = .ok () (mu z))
      (first
        | exact HSf.out _ kd
        | exact HSf.out _ kw1
        | exact HSm.out _ kw1)
      (first
        | (go_at_call 100; refine (HSu.out _).mono ?_; rintro e9 wA ⟨rfl, kA⟩; have kw1 : Kp (fun _ => False) w3 wA := HTr.out _ _ kd kA))
    obtain ⟨m1, m2, m3⟩ := HMu.out wA c T (HP.out.2.keep kw1 id) (by have := HP.out.1; have := HG.out.2.1; omega)
    have kF : Kp (fun b => b = sh ∨ b = mp) w0 (mu wA) := ((HK3.out.mono (fun _ _ e => Or.inl e)).trans kw1 (fun _ _ e => e.elim)).trans m3 (fun _ _ e => Or.inr e)
    have HF : Hid (Kp (fun b => b = sh ∨ b = mp) w (mu wA) ∧ Sk (mu wA) Z sh mp g (h ++ [r])) := ⟨(HK0.out.mono (fun _ _ e => e.elim)).trans kF (fun _ _ e => e), HSk.out.after (cp := cp) HV.out kF (fun b hb e => by
      rcases e with e | e
      · exact HD.out.2.1 (e ▸ hb)
      · exact HD.out.2.2 (e ▸ hb)) ((HL3.out.keep kw1 id).keep m3 (fun e => HD.out.1 e)) HT.out (by have := HP.out.1; split <;> omega) m2 (Or.inl ⟨rfl, hst⟩) HB0.out HG.out.2.2.2 HG.out.1 HG.out.2.1⟩
    clear m1 m2 m3 kF kw1 kA kd hst
    go_end0
    exact ⟨rfl, HF.out⟩
  | false =>
    have HS2 : Hid (∀ z, Kp (fun b => b = mp) w3 z → (∃ c T, Px3 z mp c T ∧ c ≤ 5000) → Kp (fun b => b = mp) w3 z ∧ z.cell? ⟨sh, 1, none⟩ = some (.map (some mp)) ∧ z.cell? ⟨r0, 0, none⟩ = some (.int .i64 (r.k : Int)) ∧ z.cell? ⟨r0, 1, none⟩ = some (.int .i64 (r.n : Int)) ∧ z.cell? ⟨r0, 2, none⟩ = some (.int .i64 (r.i : Int)) ∧ z.cell? ⟨r0, 3, none⟩ = some (.int .i64 (r.e : Int)) ∧ z.cell? ⟨r0, 4, none⟩ = some (.slice p r.b.length cp) ∧ (Builtin.delete_ #[93, 120] 0 #[.map (some mp), sub]).run Tryz.prog z = .ok (.tuple #[]) (md z)) := fun z k hp => by
      obtain ⟨c', T', h1, h2⟩ := hp
      refine ⟨k, k.cellv (HL3.out.cell (j := 1) rfl) HD.out.1, k.cellv (HLr3.out.cell (j := 0) rfl) HR.out.2, k.cellv (HLr3.out.cell (j := 1) rfl) HR.out.2, k.cellv (HLr3.out.cell (j := 2) rfl) HR.out.2, k.cellv (HLr3.out.cell (j := 3) rfl) HR.out.2, k.cellv (HLr3.out.cell (j := 4) rfl) HR.out.2, (HMd.out z c' T' h1).1⟩
    have HSf : Hid (∀ z, Kp (fun _ => False) w3 z → Kp (fun b => b = mp) w3 z ∧ z.cell? ⟨sh, 1, none⟩ = some (.map (some mp)) ∧ z.cell? ⟨r0, 0, none⟩ = some (.int .i64 (r.k : Int)) ∧ z.cell? ⟨r0, 1, none⟩ = some (.int .i64 (r.n : Int)) ∧ z.cell? ⟨r0, 2, none⟩ = some (.int .i64 (r.i : Int)) ∧ z.cell? ⟨r0, 3, none⟩ = some (.int .i64 (r.e : Int)) ∧ z.cell? ⟨r0, 4, none⟩ = some (.slice p r.b.length cp) ∧ (Builtin.delete_ #[93, 120] 0 #[.map (some mp), sub]).run Tryz.prog z = .ok (.tuple #[]) (md z)) := fun z k => HS2.out z (k.mono (fun _ _ e => e.elim)) ⟨c, T, HP.out.2.keep k id, by have := HP.out.1; have := HG.out.2.1; omega⟩
    have HSm : Hid (∀ z, Kp (fun _ => False) w3 z → Kp (fun b => b = mp) w3 (md z) ∧ (md z).cell? ⟨sh, 1, none⟩ = some (.map (some mp)) ∧ (md z).cell? ⟨r0, 0, none⟩ = some (.int .i64 (r.k : Int)) ∧ (md z).cell? ⟨r0, 1, none⟩ = some (.int .i64 (r.n : Int)) ∧ (md z).cell? ⟨r0, 2, none⟩ = some (.int .i64 (r.i : Int)) ∧ (md z).cell? ⟨r0, 3, none⟩ = some (.int .i64 (r.e : Int)) ∧ (md z).cell? ⟨r0, 4, none⟩ = some (.slice p r.b.length cp) ∧ (Builtin.delete_ #[93, 120] 0 #[.map (some mp), sub]).run Tryz.prog (md z) = .ok (.tuple #[]) (md (md z))) := fun z k => by
      obtain ⟨m1, m2, m3⟩ := HMd.out z c T (HP.out.2.keep k id)
      exact HS2.out _ ((k.mono (fun _ _ e => e.elim)).trans m3 (fun _ _ e => e)) ⟨_, _, m2, by have := HP.out.1; have := HG.out.2.1; split <;> omega⟩
    have HTr : Hid (∀ u u' : World, Kp (fun _ => False) w3 u → Kp (fun _ => False) u u' → Kp (fun _ => False) w3 u') := fun u u' h1 h2 => h1.trans h2 (fun _ _ e => e)
    clear HS2
    go_simp
    go_upto_region 4 with fail
    have kd : Kp (fun _ => False) w3 w3.drew := (Kp.refl _ _).drew
    go_region_held3 (fun z => Kp (fun b => b = mp) w3 z ∧ z.cell? ⟨sh, 1, none⟩ = some (.map (some mp)) ∧ z.cell? ⟨r0, 0, none⟩ = some (.int .i64 (r.k : Int)) ∧ z.cell? ⟨r0, 1, none⟩ = some (.int .i64 (r.n : Int)) ∧ z.cell? ⟨r0, 2, none⟩ = some (.int .i64 (r.i : Int)) ∧ z.cell? ⟨r0, 3, none⟩ = some (.int .i64 (r.e : Int)) ∧ z.cell? ⟨r0, 4, none⟩ = some (.slice p r.b.length cp) ∧ (Builtin.delete_ #[93, 120] 0 #[.map (some mp), sub]).run Tryz.prog z = .ok (.tuple #[]) (md z))
      (first
        | exact HSf.out _ kd
        | exact HSf.out _ kw1
        | exact HSm.out _ kw1)
      (first
        | (go_at_call 100; refine (HSu.out _).mono ?_; rintro e9 wA ⟨rfl, kA⟩; have kw1 : Kp (fun _ => False) w3 wA := HTr.out _ _ kd kA))
    obtain ⟨m1, m2, m3⟩ := HMd.out wA c T (HP.out.2.keep kw1 id)
    have kF : Kp (fun b => b = sh ∨ b = mp) w0 (md wA) := ((HK3.out.mono (fun _ _ e => Or.inl e)).trans kw1 (fun _ _ e => e.elim)).trans m3 (fun _ _ e => Or.inr e)
    have HF : Hid (Kp (fun b => b = sh ∨ b = mp) w (md wA) ∧ Sk (md wA) Z sh mp g (h ++ [r])) := ⟨(HK0.out.mono (fun _ _ e => e.elim)).trans kF (fun _ _ e => e), HSk.out.after (cp := cp) HV.out kF (fun b hb e => by
      rcases e with e | e
      · exact HD.out.2.1 (e ▸ hb)
      · exact HD.out.2.2 (e ▸ hb)) ((HL3.out.keep kw1 id).keep m3 (fun e => HD.out.1 e)) HT.out (by have := HP.out.1; split <;> omega) m2 (Or.inr ⟨rfl, hst⟩) HB0.out HG.out.2.2.2 HG.out.1 HG.out.2.1⟩
    clear m1 m2 m3 kF kw1 kA kd hst
    go_end0
    exact ⟨rfl, HF.out⟩
end Go.Proofs.YtippipeebkkghaaGreatDoor
