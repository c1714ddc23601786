/- A shelf's stock in memory: behind. -/
import Derived.Test.YtippipeebkkghaaGreatDoorIe
import Derived.Deep.DeepCutAuto
namespace Go.Proofs.YtippipeebkkghaaGreatDoor
set_option linter.unusedVariables false
set_option linter.unusedSimpArgs false
open Go.RowKit Go.Deep

abbrev zRec : Value := .agg #[.int .i64 0, .int .i64 0, .int .i64 0, .int .i64 0, .slice none 0 0]
set_option maxRecDepth 100000 in
theorem zeroRec : ∀ w, (zeroValue 122).run Tryz.prog w = .ok zRec w := fun w => by kernel_rfl
/-- a stock at block sh (behind its log at g): its map is mp, its records' bytes lie in blocks of Z -/
structure Sk (w : World) (Z : Nat → Prop) (sh mp g : Nat) (h : List Rc) : Prop where
  l : Lv w sh [.pointer (some ⟨g, 0, none⟩), .map (some mp), .int .i64 (stS h).2]
  m : ∃ c T, c ≤ h.length ∧ Px3 w mp c T ∧ ∀ x, wf3 x → ((stS h).1 x = none → T x = none) ∧ ∀ o, (stS h).1 x = some o → ∃ p cp, T x = some (rcV o p cp) ∧ Rb w p o.b.length o.b ∧ ∀ a, p = some a → Z a.block
  g : ∀ r ∈ h, GoodR r
  n : h.length ≤ 1000
theorem Sk.keep {S Z : Nat → Prop} {w w' : World} {sh mp g : Nat} {h : List Rc} (x : Sk w Z sh mp g h) (k : Kp S w w') (h1 : ¬ S sh) (h2 : ¬ S mp) (h3 : ∀ b, Z b → ¬ S b) : Sk w' Z sh mp g h := by
  obtain ⟨c, T, a1, a2, a3⟩ := x.m
  refine ⟨x.l.keep k h1, ⟨c, T, a1, a2.keep k h2, fun y hy => ⟨(a3 y hy).1, fun o ho => ?_⟩⟩, x.g, x.n⟩
  obtain ⟨p, cp, b1, b2, b3⟩ := (a3 y hy).2 o ho
  exact ⟨p, cp, b1, b2.keep k (fun a ha _ => h3 _ (b3 a ha)), b3⟩
theorem kp_new {w z : World} {g i : Nat} {v : Value} (k : Kp (fun _ => False) w z) (h : w.heap.size ≤ g) : Kp (fun _ => False) w (z.setCell ⟨g, i, none⟩ v) := k.setCell (fun e => absurd e (Nat.not_lt.2 h)) v
theorem stS_bd {h : List Rc} (hg : ∀ r ∈ h, GoodR r) (hn : h.length ≤ 1000) : -50000 ≤ (stS h).2 ∧ (stS h).2 ≤ 50000 ∧ ∀ x o, (stS h).1 x = some o → o ∈ h := by
  have h1 := stS_ge h (fun r hr => (secS_le (hg r hr)).2)
  have h2 : ∀ l : List Rc, (∀ r ∈ l, GoodR r) → (totW (l.map wrS) : Int) ≤ 50 * (l.length : Int) := by
    intro l
    induction l with
    | nil => intro _; exact Int.le_refl _
    | cons a l ih =>
      intro ha
      have h3 := ih (fun r hr => ha r (List.mem_cons_of_mem _ hr))
      have h4 := (secS_le (ha a (List.mem_cons_self ..))).2
      have h5 : totW ((a :: l).map wrS) = secS a + totW (l.map wrS) := rfl
      rw [h5, List.length_cons]
      omega
  have h6 := h2 h hg
  have h7 := stS_le h
  exact ⟨by omega, by omega, h1.2⟩

theorem lv_set5 {z : World} {x : Nat} {y0 y1 y2 y3 y4 : Value} (hl : Lv z x [y0, y1, y2, y3, y4]) (v0 v1 v2 v3 v4 : Value) : Lv (((((z.setCell ⟨x, 0, none⟩ v0).setCell ⟨x, 1, none⟩ v1).setCell ⟨x, 2, none⟩ v2).setCell ⟨x, 3, none⟩ v3).setCell ⟨x, 4, none⟩ v4) x [v0, v1, v2, v3, v4] := by
  have a0 := hl.set1 0 v0 (by simp)
  have a1 := a0.set1 1 v1 (by simp)
  have a2 := a1.set1 2 v2 (by simp)
  have a3 := a2.set1 3 v3 (by simp)
  exact a3.set1 4 v4 (by simp)

set_option maxRecDepth 100000 in
set_option maxHeartbeats 3200000 in
theorem behind_ok {w : World} {Z : Nat → Prop} {sh mp g : Nat} {h : List Rc} (x : Sk w Z sh mp g h) (r : Rc) (p : Option Addr) (cp : Nat) (hr : Rb w p r.b.length r.b) (hg : GoodR r) :
    Calls Tryz.prog 82 #[.pointer (some ⟨sh, 1, none⟩), rcV r p cp] w fun e w' => e = .returned (.int .i64 (behS (stS h).1 (stS h).2 r)) ∧ Kp (fun _ => False) w w' := by
  obtain ⟨t, ht⟩ : ∃ t, t = (stS h).2 := ⟨_, rfl⟩
  obtain ⟨r0, hr0⟩ : ∃ r0, r0 = w.heap.size := ⟨_, rfl⟩
  obtain ⟨w0, hw0⟩ : ∃ y, y = w.alloc (.cells #[.int .i64 (r.k : Int), .int .i64 (r.n : Int), .int .i64 (r.i : Int), .int .i64 (r.e : Int), .slice p r.b.length cp] 122) := ⟨_, rfl⟩
  have HK0 : Hid (Kp (fun _ => False) w w0) := by rw [hw0]; exact (Kp.refl _ _).alloc _
  have HL0 : Hid (Lv w0 r0 [.int .i64 (r.k : Int), .int .i64 (r.n : Int), .int .i64 (r.i : Int), .int .i64 (r.e : Int), .slice p r.b.length cp]) := by rw [hw0, hr0]; exact Lv.new _ _ _
  have hbd := stS_bd x.g x.n
  have hsr := secS_le hg
  have HB : Hid (-50000 ≤ t ∧ t ≤ 50000 ∧ secS r ≤ 50) := ⟨by omega, by omega, hsr.2⟩
  have HSt : Hid (∀ u, Calls Tryz.prog 99 #[.agg #[.int .i64 (r.k : Int), .int .i64 (r.n : Int), .int .i64 (r.i : Int), .int .i64 (r.e : Int), .slice p r.b.length cp]] u fun e w' => e = .returned (.bool (staysS r)) ∧ Kp (fun _ => False) u w') := fun u => stays_ok r p cp u
  have HSu : Hid (∀ u, Calls Tryz.prog 100 #[.agg #[.int .i64 (r.k : Int), .int .i64 (r.n : Int), .int .i64 (r.i : Int), .int .i64 (r.e : Int), .slice p r.b.length cp]] u fun e w' => e = .returned (pv3 (subS r)) ∧ Kp (fun _ => False) u w') := fun u => subject_ok r p cp u
  have HSr : Hid (∀ u, Kp (fun _ => False) w0 u → Calls Tryz.prog 81 #[.agg #[.int .i64 (r.k : Int), .int .i64 (r.n : Int), .int .i64 (r.i : Int), .int .i64 (r.e : Int), .slice p r.b.length cp]] u fun e w' => e = .returned (.int .i64 (secS r : Int)) ∧ Kp (fun _ => False) u w') := fun u k => recsec_ok r p cp u ((hr.keep0 HK0.out).keep0 k) hg
  have x0 := x.keep HK0.out (fun e => e) (fun e => e) (fun _ _ e => e)
  have HCl : Hid (Lv w0 sh [.pointer (some ⟨g, 0, none⟩), .map (some mp), .int .i64 t]) := by rw [ht]; exact x0.l
  obtain ⟨c, T, hc1, hc2, hc3⟩ := x0.m
  have hwf := subS_wf hg
  obtain ⟨sub, hsub⟩ : ∃ sub, sub = pv3 (subS r) := ⟨_, rfl⟩
  have HLk : Hid (∀ z, Kp (fun _ => False) w0 z → (Instr.lookup 93 (.map (some mp)) sub true).run Tryz.prog z = .ok (.tuple #[(T (subS r)).getD zRec, .bool (T (subS r)).isSome]) z) := fun z k => by
    rw [hsub]
    exact look_px3_ok Tryz.underlying93 zeroRec (hc2.keep k id) hwf
  rw [← hsub] at HSu
  have hlb : Hid (∀ o, (stS h).1 (subS r) = some o → secS o ≤ 50 ∧ ∃ p cp, T (subS r) = some (rcV o p cp) ∧ Rb w0 p o.b.length o.b ∧ GoodR o) := fun o ho => by
    obtain ⟨p2, cp2, b1, b2, b3⟩ := (hc3 _ hwf).2 o ho
    have := x.g o (hbd.2.2 _ _ ho)
    exact ⟨(secS_le this).2, p2, cp2, b1, b2, this⟩
  have hnb : Hid ((stS h).1 (subS r) = none → T (subS r) = none) := (hc3 _ hwf).1
  obtain ⟨M, hM⟩ : ∃ M, M = (stS h).1 := ⟨_, rfl⟩
  rw [← hM] at hlb hnb ⊢
  rw [← ht]
  show Calls Tryz.prog 82 #[.pointer (some ⟨sh, 1, none⟩), .agg #[.int .i64 (r.k : Int), .int .i64 (r.n : Int), .int .i64 (r.i : Int), .int .i64 (r.e : Int), .slice p r.b.length cp]] w _
  obtain ⟨z, hz⟩ : ∃ z, z = behS M t r := ⟨_, rfl⟩
  have HZ : Hid (z = behS M t r) := hz
  rw [← hz]
  clear x x0 hr hg ht hbd hsr hc1 hc2 hc3 hwf hsub hM hz
  go_enter Tryz.func82, Tryz.ntmps82
  go_upto_region 1 with fail
  rw [← hw0, ← hr0]
  clear hw0 hr0
  have c2 : w0.cell? ⟨sh, 2, none⟩ = some (.int .i64 t) := HCl.out.cell (j := 2) rfl
  go_upto_region 2 with fail
  have kd : Kp (fun _ => False) w0 w0.drew := (Kp.refl _ _).drew
  have HS2 : Hid (∀ z, Kp (fun _ => False) w0 z → Kp (fun _ => False) w0 z ∧ z.cell? ⟨sh, 1, none⟩ = some (.map (some mp)) ∧ z.cell? ⟨r0, 0, none⟩ = some (.int .i64 (r.k : Int)) ∧ z.cell? ⟨r0, 1, none⟩ = some (.int .i64 (r.n : Int)) ∧ z.cell? ⟨r0, 2, none⟩ = some (.int .i64 (r.i : Int)) ∧ z.cell? ⟨r0, 3, none⟩ = some (.int .i64 (r.e : Int)) ∧ z.cell? ⟨r0, 4, none⟩ = some (.slice p r.b.length cp)) := fun z k => ⟨k, k.cellv (HCl.out.cell (j := 1) rfl) id, k.cellv (HL0.out.cell (j := 0) rfl) id, k.cellv (HL0.out.cell (j := 1) rfl) id, k.cellv (HL0.out.cell (j := 2) rfl) id, k.cellv (HL0.out.cell (j := 3) rfl) id, k.cellv (HL0.out.cell (j := 4) rfl) id⟩
  have HTr : Hid (∀ u u' : World, Kp (fun _ => False) w0 u → Kp (fun _ => False) u u' → Kp (fun _ => False) w0 u') := fun u u' h1 h2 => h1.trans h2 (fun _ _ e => e)
  have HFi : Hid (∀ (z : World) (x : Nat) (v0 v1 v2 v3 v4 : Value), w0.heap.size ≤ x → Kp (fun _ => False) w0 z → Kp (fun _ => False) w0 (((((z.setCell ⟨x, 0, none⟩ v0).setCell ⟨x, 1, none⟩ v1).setCell ⟨x, 2, none⟩ v2).setCell ⟨x, 3, none⟩ v3).setCell ⟨x, 4, none⟩ v4)) := fun z x v0 v1 v2 v3 v4 hx kz => kp_new (kp_new (kp_new (kp_new (kp_new kz hx) hx) hx) hx) hx
  have HL5 : Hid (∀ (z : World) (x : Nat) (y0 y1 y2 y3 y4 v0 v1 v2 v3 v4 : Value), Lv z x [y0, y1, y2, y3, y4] → Lv (((((z.setCell ⟨x, 0, none⟩ v0).setCell ⟨x, 1, none⟩ v1).setCell ⟨x, 2, none⟩ v2).setCell ⟨x, 3, none⟩ v3).setCell ⟨x, 4, none⟩ v4) x [v0, v1, v2, v3, v4]) := fun z x y0 y1 y2 y3 y4 v0 v1 v2 v3 v4 hl => lv_set5 hl v0 v1 v2 v3 v4
  obtain ⟨a1, a2, a3, a4, qq, nn, cc, ok, HLk2, HM⟩ : ∃ (a1 a2 a3 a4 : Int) (qq : Option Addr) (nn cc : Nat) (ok : Bool), Hid (∀ z, Kp (fun _ => False) w0 z → (Instr.lookup 93 (.map (some mp)) sub true).run Tryz.prog z = .ok (.tuple #[.agg #[.int .i64 a1, .int .i64 a2, .int .i64 a3, .int .i64 a4, .slice qq nn cc], .bool ok]) z) ∧ Hid ((ok = false ∧ M (subS r) = none) ∨ (ok = true ∧ ∃ o, M (subS r) = some o ∧ a1 = (o.k : Int) ∧ a2 = (o.n : Int) ∧ a3 = (o.i : Int) ∧ a4 = (o.e : Int) ∧ nn = o.b.length ∧ secS o ≤ 50 ∧ Rb w0 qq o.b.length o.b ∧ GoodR o)) := by
    cases hMo : M (subS r) with
    | none => exact ⟨0, 0, 0, 0, none, 0, 0, false, fun z k => by have := HLk.out z k; rw [hnb.out hMo] at this; exact this, Or.inl ⟨rfl, rfl⟩⟩
    | some o =>
      obtain ⟨hso, p2, cp2, hT, hb2, hgo⟩ := hlb.out o hMo
      exact ⟨o.k, o.n, o.i, o.e, p2, o.b.length, cp2, true, fun z k => by have := HLk.out z k; rw [hT] at this; exact this, Or.inr ⟨rfl, o, rfl, rfl, rfl, rfl, rfl, rfl, hso, hb2, hgo⟩⟩
  clear HLk hnb hlb
  have HSl : Hid (∀ z, Kp (fun _ => False) w0 z → Kp (fun _ => False) w0 z ∧ z.cell? ⟨sh, 1, none⟩ = some (.map (some mp)) ∧ z.cell? ⟨r0, 0, none⟩ = some (.int .i64 (r.k : Int)) ∧ z.cell? ⟨r0, 1, none⟩ = some (.int .i64 (r.n : Int)) ∧ z.cell? ⟨r0, 2, none⟩ = some (.int .i64 (r.i : Int)) ∧ z.cell? ⟨r0, 3, none⟩ = some (.int .i64 (r.e : Int)) ∧ z.cell? ⟨r0, 4, none⟩ = some (.slice p r.b.length cp) ∧ (Instr.lookup 93 (.map (some mp)) sub true).run Tryz.prog z = .ok (.tuple #[.agg #[.int .i64 a1, .int .i64 a2, .int .i64 a3, .int .i64 a4, .slice qq nn cc], .bool ok]) z) := fun z k => by obtain ⟨q0, q1, q2, q3, q4, q5, q6⟩ := HS2.out z k; exact ⟨q0, q1, q2, q3, q4, q5, q6, HLk2.out z k⟩
  clear HS2 HLk2
  go_cut [6, 7] (fun v6 v7 wz => ∃ q, v6 = .pointer (some ⟨q, 0, none⟩) ∧ v7 = .bool ok ∧ w0.heap.size ≤ q ∧ Hid (Kp (fun _ => False) w0 wz) ∧ Hid (Lv wz q [.int .i64 a1, .int .i64 a2, .int .i64 a3, .int .i64 a4, .slice qq nn cc]))
  case first =>
    have kda : ∀ o : Obj, Kp (fun _ => False) w0 (w0.alloc o).drew := fun o => ((Kp.refl _ _).alloc o).drew
    go_region_held3 (fun z => Kp (fun _ => False) w0 z ∧ z.cell? ⟨sh, 1, none⟩ = some (.map (some mp)) ∧ z.cell? ⟨r0, 0, none⟩ = some (.int .i64 (r.k : Int)) ∧ z.cell? ⟨r0, 1, none⟩ = some (.int .i64 (r.n : Int)) ∧ z.cell? ⟨r0, 2, none⟩ = some (.int .i64 (r.i : Int)) ∧ z.cell? ⟨r0, 3, none⟩ = some (.int .i64 (r.e : Int)) ∧ z.cell? ⟨r0, 4, none⟩ = some (.slice p r.b.length cp) ∧ (Instr.lookup 93 (.map (some mp)) sub true).run Tryz.prog z = .ok (.tuple #[.agg #[.int .i64 a1, .int .i64 a2, .int .i64 a3, .int .i64 a4, .slice qq nn cc], .bool ok]) z)
      (first
        | exact HSl.out _ kd
        | exact HSl.out _ kw1
        | exact HSl.out _ (kda _)
        | exact HSl.out _ (kw1.alloc _)
        | exact HSl.out _ (HFi.out _ _ _ _ _ _ _ (Nat.le_refl _) kw1)
        | exact HSl.out _ (HFi.out _ _ _ _ _ _ _ kw1.size (kw1.alloc _)))
      (first
        | (go_at_call 100; refine (HSu.out _).mono ?_; rintro e9 w1 ⟨rfl, k1⟩; have kw1 : Kp (fun _ => False) w0 w1 := HTr.out _ _ kd k1)
        | (go_at_call 100; refine (HSu.out _).mono ?_; rintro e9 w1 ⟨rfl, k1⟩; have kw1 : Kp (fun _ => False) w0 w1 := HTr.out _ _ (kda _) k1; have l0 : Lv w1 w0.heap.size [.int .i64 0, .int .i64 0, .int .i64 0, .int .i64 0, .slice none 0 0] := ((Lv.new w0 _ _).keep (S := fun _ => False) ((Kp.refl _ _).drew) id).keep k1 id; have b0 := l0.cell (j := 0) rfl; have g0 := l0.fz (j := 0) (show 0 < 5 by decide); have b1 := l0.cell (j := 1) rfl; have g1 := l0.fz (j := 1) (show 1 < 5 by decide); have b2 := l0.cell (j := 2) rfl; have g2 := l0.fz (j := 2) (show 2 < 5 by decide); have b3 := l0.cell (j := 3) rfl; have g3 := l0.fz (j := 3) (show 3 < 5 by decide); have b4 := l0.cell (j := 4) rfl; have g4 := l0.fz (j := 4) (show 4 < 5 by decide)))
    all_goals
      go_simp
      go_wp2_with fail
      go_meet
      first
        | exact ⟨_, rfl, rfl, kw1.size, kw1.alloc _, Lv.new _ _ _⟩
        | exact ⟨_, rfl, rfl, Nat.le_refl _, HFi.out _ _ _ _ _ _ _ (Nat.le_refl _) kw1, HL5.out _ _ _ _ _ _ _ _ _ _ _ _ l0⟩
  case rest =>
    obtain ⟨q, rfl, rfl, hq, HKz, HLz⟩ := hcut
    clear HSl HTr HFi HL5 c2 kd hq
    rcases HM.out with ⟨rfl, hMo⟩ | ⟨rfl, o, hMo, rfl, rfl, rfl, rfl, rfl, hso, hb2, hgo⟩
    · clear HM
      -- region 5 and on, at world wc
      have HLs : Hid (Lv wc r0 [.int .i64 (r.k : Int), .int .i64 (r.n : Int), .int .i64 (r.i : Int), .int .i64 (r.e : Int), .slice p r.b.length cp]) := HL0.out.keep HKz.out id
      have HSt1 : Hid (Calls _ _ _ wc _) := HSt.out wc
      have y0 := HLs.out.cell (j := 0) rfl
      have y1 := HLs.out.cell (j := 1) rfl
      have y2 := HLs.out.cell (j := 2) rfl
      have y3 := HLs.out.cell (j := 3) rfl
      have y4 := HLs.out.cell (j := 4) rfl
      go_wp2_with fail
      refine HSt1.out.mono ?_
      rintro e9 wS ⟨rfl, kS⟩
      have HKs : Hid (Kp (fun _ => False) w0 wS) := HKz.out.trans kS (fun _ _ e => e)
      clear kS HSt1 y0 y1 y2 y3 y4
      cases hst : staysS r with
      | false =>
        have HE : Hid (z = t) := by
          show _ = _
          rw [HZ.out]
          unfold behS
          rw [hMo, hst]
          simp
        have HF : Hid (Kp (fun _ => False) w wS) := HK0.out.trans HKs.out (fun _ _ e => e)
        clear hst
        go_wp2_with fail
        go_ret
        exact ⟨by rw [HE.out]; rfl, HF.out⟩
      | true =>
        have HE : Hid (z = t + (secS r : Int)) := by
          show _ = _
          rw [HZ.out]
          unfold behS
          rw [hMo, hst]
          simp
        have HSr1 : Hid (Calls _ _ _ wS _) := HSr.out wS HKs.out
        have HLt : Hid (Lv wS r0 [.int .i64 (r.k : Int), .int .i64 (r.n : Int), .int .i64 (r.i : Int), .int .i64 (r.e : Int), .slice p r.b.length cp]) := HL0.out.keep HKs.out id
        have y0 := HLt.out.cell (j := 0) rfl
        have y1 := HLt.out.cell (j := 1) rfl
        have y2 := HLt.out.cell (j := 2) rfl
        have y3 := HLt.out.cell (j := 3) rfl
        have y4 := HLt.out.cell (j := 4) rfl
        clear hst
        go_wp2_with fail
        refine HSr1.out.mono ?_
        rintro e9 wT ⟨rfl, kT⟩
        have HF : Hid (Kp (fun _ => False) w wT) := (HK0.out.trans HKs.out (fun _ _ e => e)).trans kT (fun _ _ e => e)
        have HW : Hid (wrap64 (t + (secS r : Int)) = z) := by
          have h1 := HE.out
          have h2 := HB.out
          skip
          show wrap64 _ = _
          rw [← h1]
          have h3 : -200000 ≤ z ∧ z ≤ 200000 := by omega
          clear h1 h2 HE HB
          unfold wrap64
          omega
        clear kT HSr1 y0 y1 y2 y3 y4
        go_wp2_with fail
        go_ret
        exact ⟨by first | (rw [HW.out]; rfl) | rfl, HF.out⟩
    · clear HM
      have HSo : Hid (Calls Tryz.prog 81 #[.agg #[.int .i64 (o.k : Int), .int .i64 (o.n : Int), .int .i64 (o.i : Int), .int .i64 (o.e : Int), .slice qq o.b.length cc]] wc fun e w' => e = .returned (.int .i64 (secS o : Int)) ∧ Kp (fun _ => False) wc w') := recsec_ok o qq cc wc (hb2.keep0 HKz.out) hgo
      have hwo : wrap64 (t - (secS o : Int)) = t - (secS o : Int) := by
        have h2 := HB.out
        have h3 : -200000 ≤ t - (secS o : Int) ∧ t - (secS o : Int) ≤ 200000 := by omega
        clear h2 HB
        unfold wrap64
        omega
      have HSO9 : Hid (secS o ≤ 50) := hso
      have o0 := HLz.out.cell (j := 0) rfl
      have o1 := HLz.out.cell (j := 1) rfl
      have o2 := HLz.out.cell (j := 2) rfl
      have o3 := HLz.out.cell (j := 3) rfl
      have o4 := HLz.out.cell (j := 4) rfl
      clear hb2 hgo hso
      go_wp2_with fail
      refine HSo.out.mono ?_
      rintro e9 wo ⟨rfl, ko⟩
      have HKo : Hid (Kp (fun _ => False) w0 wo) := HKz.out.trans ko (fun _ _ e => e)
      clear ko o0 o1 o2 o3 o4 HSo HLz
      go_upto_region 5 with fail
      try rw [hwo]
      -- region 5 and on, at world wo
      have HLs : Hid (Lv wo r0 [.int .i64 (r.k : Int), .int .i64 (r.n : Int), .int .i64 (r.i : Int), .int .i64 (r.e : Int), .slice p r.b.length cp]) := HL0.out.keep HKo.out id
      have HSt1 : Hid (Calls _ _ _ wo _) := HSt.out wo
      have y0 := HLs.out.cell (j := 0) rfl
      have y1 := HLs.out.cell (j := 1) rfl
      have y2 := HLs.out.cell (j := 2) rfl
      have y3 := HLs.out.cell (j := 3) rfl
      have y4 := HLs.out.cell (j := 4) rfl
      go_wp2_with fail
      refine HSt1.out.mono ?_
      rintro e9 wS ⟨rfl, kS⟩
      have HKs : Hid (Kp (fun _ => False) w0 wS) := HKo.out.trans kS (fun _ _ e => e)
      clear kS HSt1 y0 y1 y2 y3 y4
      cases hst : staysS r with
      | false =>
        have HE : Hid (z = t - (secS o : Int)) := by
          show _ = _
          rw [HZ.out]
          unfold behS
          rw [hMo, hst]
          simp
        have HF : Hid (Kp (fun _ => False) w wS) := HK0.out.trans HKs.out (fun _ _ e => e)
        clear hst
        go_wp2_with fail
        go_ret
        exact ⟨by rw [HE.out]; rfl, HF.out⟩
      | true =>
        have HE : Hid (z = t - (secS o : Int) + (secS r : Int)) := by
          show _ = _
          rw [HZ.out]
          unfold behS
          rw [hMo, hst]
          simp
        have HSr1 : Hid (Calls _ _ _ wS _) := HSr.out wS HKs.out
        have HLt : Hid (Lv wS r0 [.int .i64 (r.k : Int), .int .i64 (r.n : Int), .int .i64 (r.i : Int), .int .i64 (r.e : Int), .slice p r.b.length cp]) := HL0.out.keep HKs.out id
        have y0 := HLt.out.cell (j := 0) rfl
        have y1 := HLt.out.cell (j := 1) rfl
        have y2 := HLt.out.cell (j := 2) rfl
        have y3 := HLt.out.cell (j := 3) rfl
        have y4 := HLt.out.cell (j := 4) rfl
        clear hst
        go_wp2_with fail
        refine HSr1.out.mono ?_
        rintro e9 wT ⟨rfl, kT⟩
        have HF : Hid (Kp (fun _ => False) w wT) := (HK0.out.trans HKs.out (fun _ _ e => e)).trans kT (fun _ _ e => e)
        have HW : Hid (wrap64 (t - (secS o : Int) + (secS r : Int)) = z) := by
          have h1 := HE.out
          have h2 := HB.out
          have h9 := HSO9.out
          show wrap64 _ = _
          rw [← h1]
          have h3 : -200000 ≤ z ∧ z ≤ 200000 := by omega
          clear h1 h2 HE HB
          unfold wrap64
          omega
        clear kT HSr1 y0 y1 y2 y3 y4
        go_wp2_with fail
        go_ret
        exact ⟨by first | (rw [HW.out]; rfl) | rfl, HF.out⟩
end Go.Proofs.YtippipeebkkghaaGreatDoor
