/- An acceptor: Accept (laid by scripts/mkvom.py). -/
import Derived.Test.YtippipeebkkghaaGreatDoorVol
namespace Go.Proofs.YtippipeebkkghaaGreatDoor
set_option linter.unusedVariables false
set_option linter.unusedSimpArgs false
open Go.RowKit Go.Deep Go.Maps

section
variable {w : World} {Z : Nat → Prop} {sh mp g bp d m gf b N : Nat} {h : List Rc} {hi : Nat} {V : Nat → Nat}

theorem Res.keep0 {w1 w2 : World} {w0 k hi' : Nat} {V' : Nat → Nat} (x : Res w1 Z w0 sh mp g bp d m gf b N k hi' V') (kd : Kp (fun _ => False) w1 w2) : Res w2 Z w0 sh mp g bp d m gf b N k hi' V' := by
  obtain ⟨Z', gf', N', h', e, hn, hs, hh, hzz⟩ := x
  exact ⟨Z', gf', N', h', e, hn, hs.keep0 kd, hh, hzz⟩

theorem cmdV_len {bt : Nat} (hb : 1 ≤ bt ∧ bt ≤ 20) : (cmdV bt).length = 13 := by rw [cmdV_eq hb.1 hb.2]; rfl

/-- the vote is noted, behind the promise -/
theorem vote_noted {w1 wc : World} {ac qb bt sl B : Nat} {vc : Value} (hb : 1 ≤ bt ∧ bt ≤ 20) (hsl : 1 ≤ sl ∧ sl ≤ 5) (hN : N + 2 ≤ 1000)
    (hR : Res w1 Z wc.heap.size sh mp g bp d m gf b N 1 bt V) (hw : w.heap.size ≤ wc.heap.size) (k1 : Kp (SW6 sh mp g m gf d) w w1)
    (hac : w1.cell? ⟨ac, 0, none⟩ = some (.pointer (some ⟨sh, 0, none⟩))) (hqb : w1.cell? ⟨qb, 0, none⟩ = some (.int .i64 (bt : Int)))
    (nac : ¬ SW6 sh mp g m gf d ac ∧ ac < wc.heap.size) (nqb : ¬ SW6 sh mp g m gf d qb ∧ qb < wc.heap.size) (ov : Ow w1 B vc (cmdV bt)) :
    Calls Tryz.prog 24 #[.agg #[.int .i64 (bt : Int)]] w1 fun e w9 => ∃ v1 v2 w2, e = .returned v1 ∧ (w9.cell? ⟨ac, 0, none⟩ = some (.pointer (some ⟨sh, 0, none⟩)) ∧ w9.cell? ⟨qb, 0, none⟩ = some (.int .i64 (bt : Int))) ∧ (Builtin.append_ #[75, 75] 75 #[v1, vc]).run Tryz.prog w9 = .ok v2 w2 ∧ (w2.cell? ⟨ac, 0, none⟩ = some (.pointer (some ⟨sh, 0, none⟩)) ∧ w2.cell? ⟨qb, 0, none⟩ = some (.int .i64 (bt : Int))) ∧ (Calls Tryz.prog 23 #[.pointer (some ⟨sh, 0, none⟩), .int .i64 (sl : Int), v2] w2 fun e w9 => e = .returned (.int .i64 0) ∧ (w9.cell? ⟨ac, 0, none⟩ = some (.pointer (some ⟨sh, 0, none⟩)) ∧ w9.cell? ⟨qb, 0, none⟩ = some (.int .i64 (bt : Int))) ∧ (Kp (SW6 sh mp g m gf d) w w9 ∧ Res w9 Z w.heap.size sh mp g bp d m gf b N 2 bt (fun t => if t = sl then bt else V t))) := by
  refine (vwritten_ok bt (by omega) w1).mono ?_
  rintro e w9 ⟨v1, rfl, k9, o9⟩
  rw [numB_one hb.1 hb.2] at o9
  have hbv : ∀ z ∈ cmdV bt, z < 256 := fun z hz => by
    rw [cmdV_eq hb.1 hb.2] at hz
    simp only [List.mem_cons, List.not_mem_nil, or_false] at hz
    omega
  have ov9 : Ow w9 B vc (cmdV bt) := ownsRow_keep ov k9 (fun _ _ e => e)
  obtain ⟨p, c, rfl, hc, hr, _⟩ := ov9.rb hbv
  obtain ⟨v2, w2, hrun, o2, k2⟩ := append_ow o9 p _ c (cmdV bt) hr (by rw [cmdV_len hb]; show 2 + 13 ≤ _; omega) k9.size
  have k12 : Kp (fun _ => False) w1 w2 := k9.trans k2 (fun x hx e => by have := (ownBlock_lt o9 e).1; omega)
  obtain ⟨Z', gf', N', h', e, hn, hs, hh, hzz⟩ := hR
  have e' : gf' = gf ∨ w.heap.size ≤ gf' := e.imp id (fun e => Nat.le_trans hw e)
  have n1 : ¬ SW6 sh mp g m gf' d ac := fun hx => nac.1 (sw6_back e nac.2 hx)
  have n2 : ¬ SW6 sh mp g m gf' d qb := fun hx => nqb.1 (sw6_back e nqb.2 hx)
  have x1 := k12.cellv hac id
  have x2 := k12.cellv hqb id
  refine ⟨v1, v2, w2, rfl, ⟨k9.cellv hac id, k9.cellv hqb id⟩, hrun, ⟨x1, x2⟩, ?_⟩
  refine (noteV_ok (hs.keep0 k12) hh sl bt hsl hb (by omega) o2).mono ?_
  rintro e9 w3 ⟨rfl, k3, Z2, gf2, N2, h2, e2, hn2, hs2, hh2, hzz2⟩
  refine ⟨rfl, ⟨k3.cellv x1 n1, k3.cellv x2 n2⟩, ?_, Z2, gf2, N2, h2, ?_, by omega, hs2, hh2, fun v hv => ?_⟩
  · exact (k1.trans (k12.mono (fun _ _ e => e.elim)) (fun _ _ e => e)).trans k3 (fun x hx hS => sw6_back e' hx hS)
  · rcases e2 with rfl | e2
    · exact e'
    · exact Or.inr (by have := k12.size; have := k1.size; omega)
  · rcases hzz2 v hv with e3 | e3
    · rcases hzz v e3 with e4 | e4
      · exact Or.inl e4
      · exact Or.inr (by omega)
    · exact Or.inr (by have := k12.size; have := k1.size; omega)

set_option maxRecDepth 100000 in
set_option maxHeartbeats 6400000 in
theorem accept_ok {ac : Nat} (x : Shr w Z sh mp g bp d m gf 398 b N h) (hs : Hs h hi V) (hc : w.cell? ⟨ac, 0, none⟩ = some (.pointer (some ⟨sh, 0, none⟩))) (hna : ¬ SW6 sh mp g m gf d ac) (bt sl : Nat) (hb : 1 ≤ bt ∧ bt ≤ 20) (hsl : 1 ≤ sl ∧ sl ≤ 5) (hN : N + 2 ≤ 1000) :
    Calls Tryz.prog 6 #[.pointer (some ⟨ac, 0, none⟩), .int .i64 (bt : Int), .int .i64 (sl : Int), .agg (cmdA (cId bt) (.slice none 0 0))] w fun e9 w' =>
      (bt < hi ∧ e9 = .returned (.tuple #[.bool false, .int .i64 0]) ∧ Kp (fun _ => False) w w') ∨
      (hi ≤ bt ∧ e9 = .returned (.tuple #[.bool true, .int .i64 0]) ∧ Kp (SW6 sh mp g m gf d) w w' ∧ ResD w' Z w.heap.size sh mp g bp d m gf b N 2 bt (fun t => if t = sl then bt else V t)) := by
  obtain ⟨q0, hq0⟩ : ∃ y, y = w.heap.size := ⟨_, rfl⟩
  obtain ⟨w0, hw0⟩ : ∃ y, y = w.alloc (.cells (cmdA (cId bt) (.slice none 0 0)) 31) := ⟨_, rfl⟩
  have HK0 : Hid (Kp (fun _ => False) w w0) := by rw [hw0]; exact (Kp.refl _ _).alloc _
  have HL0 : Hid (Lv w0 q0 (cmdA (cId bt) (.slice none 0 0)).toList) := by rw [hw0, hq0]; exact Lv.new _ _ _
  have HAs : Hid (Calls _ _ _ w0 _) := vasked_ok (HK0.out.cellv hc id) bt sl hb ⟨hsl.1, by omega⟩
  have HFc : Hid (Calls _ _ _ w0 _) := fcmd_ok (cId bt) (fun _ => False) none 0 0 [] w0 (fun j u hu => by simp at hu) (fun b hb => hb.elim) rfl (by omega) (by show (0 : Nat) ≤ _; omega) ⟨by show (0 : Int) ≤ 0; omega, by show (0 : Int) < _; omega⟩
  have HMy : Hid (mayC (cId bt) [] = true) := mayC_id hb.2
  have HS : Hid (Shr w Z sh mp g bp d m gf 398 b N h ∧ Hs h hi V ∧ w.cell? ⟨ac, 0, none⟩ = some (.pointer (some ⟨sh, 0, none⟩)) ∧ ¬ SW6 sh mp g m gf d ac ∧ N + 2 ≤ 1000) := ⟨x, hs, hc, hna, hN⟩
  obtain ⟨cB, hcB⟩ : ∃ y : Bool, y = decide ((bt : Int) < (hi : Int)) := ⟨_, rfl⟩
  have HBl : Hid (∀ u, Calls Tryz.prog 18 #[.agg #[.int .i64 (bt : Int)], .agg #[.int .i64 (hi : Int)]] u fun e w' => e = .returned (.bool cB) ∧ Kp (fun _ => False) u w') := fun u => by
    rw [hcB]
    exact below_ok _ _ u
  have HcB : Hid (cB = decide ((bt : Int) < (hi : Int))) := hcB
  have HBt : Hid ((1 ≤ bt ∧ bt ≤ 20) ∧ (1 ≤ sl ∧ sl ≤ 5)) := ⟨hb, hsl⟩
  have HQ : Hid (q0 = w.heap.size) := hq0
  obtain ⟨xa, hxa⟩ : ∃ x, x = cmdA (cId bt) (.slice none 0 0) := ⟨_, rfl⟩
  have HXl : Hid (xa.toList.length = 12) := by rw [hxa]; rfl
  rw [← hxa] at hw0 HL0 HFc ⊢
  clear x hs hc hna hN hcB hb hsl hxa
  go_enter Tryz.func6, Tryz.ntmps6
  go_upto_region 1 with fail
  rw [← hw0, ← hq0]
  clear hw0 hq0
  go_wp2_with fail
  refine HAs.out.mono ?_
  rintro e9 w9 ⟨rfl, hw9⟩
  have hw8 := hw9.symm
  subst hw8
  clear hw9 HAs
  go_wp2_with (refine wpList_load_all rfl 31 _ rfl 12 q0 xa.toList rfl HL0.out dsCmd szCmd HXl.out ?_; rw [Array.toArray_toList])
  refine HFc.out.mono ?_
  rintro e9 w1 ⟨hq, k1⟩
  unfold CmdRes at hq
  rw [if_pos HMy.out, cpOf_id] at hq
  obtain ⟨vc, rfl, ov⟩ := hq
  have HOv : Hid (Ow w1 w0.heap.size vc (cmdV bt)) := ov
  have HK1 : Hid (Kp (fun _ => False) w w1) := HK0.out.trans k1 (fun _ _ e => e)
  obtain ⟨qb, hqb⟩ : ∃ y, y = w1.heap.size := ⟨_, rfl⟩
  obtain ⟨w2, hw2⟩ : ∃ y, y = w1.alloc (.cells #[.int .i64 (bt : Int)] 68) := ⟨_, rfl⟩
  have k2 : Kp (fun _ => False) w1 w2 := by rw [hw2]; exact (Kp.refl _ _).alloc _
  have HL2 : Hid (Lv w2 qb [.int .i64 (bt : Int)]) := by rw [hw2, hqb]; exact Lv.new _ _ _
  have HK2 : Hid (Kp (fun _ => False) w w2) := HK1.out.trans k2 (fun _ _ e => e)
  have HOv2 : Hid (Ow w2 w0.heap.size vc (cmdV bt)) := ownsRow_keep ov k2 (fun _ _ e => e)
  have HQb : Hid (w.heap.size ≤ qb ∧ qb < w2.heap.size) := ⟨by rw [hqb]; exact HK1.out.size, HL2.out.lt (by simp)⟩
  have hc2 : w2.cell? ⟨ac, 0, none⟩ = some (.pointer (some ⟨sh, 0, none⟩)) := HK2.out.cellv HS.out.2.2.1 id
  have HP : Hid (∀ u, Kp (fun _ => False) w2 u → Calls Tryz.prog 19 #[.pointer (some ⟨ac, 0, none⟩)] u fun e w' => e = .returned (.agg #[.int .i64 (hi : Int)]) ∧ Kp (fun _ => False) u w') := fun u k => promised_ok ((HS.out.1.keep0 HK2.out).keep0 k).sk HS.out.2.1 (k.cellv hc2 id)
  clear ov k1 k2 HFc HMy HL0 HXl HOv
  go_upto_region 8 with fail
  rw [← hw2, ← hqb]
  clear hw2 hqb
  have kd : Kp (fun _ => False) w2 w2.drew := (Kp.refl _ _).drew
  have HS1 : Hid (∀ z, Kp (fun _ => False) w2 z → Kp (fun _ => False) w2 z ∧ z.cell? ⟨qb, 0, none⟩ = some (.int .i64 (bt : Int)) ∧ z.cell? ⟨ac, 0, none⟩ = some (.pointer (some ⟨sh, 0, none⟩))) := fun z k => ⟨k, k.cellv (HL2.out.cell (j := 0) rfl) id, k.cellv hc2 id⟩
  have HTr : Hid (∀ u u' : World, Kp (fun _ => False) w2 u → Kp (fun _ => False) u u' → Kp (fun _ => False) w2 u') := fun u u' h1 h2 => h1.trans h2 (fun _ _ e => e)
  go_cut [37] (fun v8 wz => v8 = .bool cB ∧ Hid (Kp (fun _ => False) w2 wz))
  case first =>
    clear HS HcB HOv2
    go_region_held3 (fun z => Kp (fun _ => False) w2 z ∧ z.cell? ⟨qb, 0, none⟩ = some (.int .i64 (bt : Int)) ∧ z.cell? ⟨ac, 0, none⟩ = some (.pointer (some ⟨sh, 0, none⟩)))
      (first
        | exact HS1.out _ kd
        | exact HS1.out _ kw1
        | exact HS1.out _ kw2)
      (first
        | (go_at_call 19; refine (HP.out _ kd).mono ?_; rintro e9 w7 ⟨rfl, k7⟩; have kw1 := HTr.out _ _ kd k7)
        | (go_at_call 18; refine (HBl.out _).mono ?_; rintro e9 w8 ⟨rfl, k8⟩; have kw2 := HTr.out _ _ kw1 k8))
    all_goals
      go_simp
      go_wp2_with fail
      go_meet
      first
        | exact ⟨rfl, kw2⟩
        | trace_state
  case rest =>
    obtain ⟨rfl, HKc⟩ := hcut
    have HKw : Hid (Kp (fun _ => False) w wc) := HK2.out.trans HKc.out (fun _ _ e => e)
    have HOc : Hid (Ow wc w0.heap.size vc (cmdV bt)) := ownsRow_keep HOv2.out HKc.out (fun _ _ e => e)
    have c1 : wc.cell? ⟨qb, 0, none⟩ = some (.int .i64 (bt : Int)) := HKc.out.cellv (HL2.out.cell (j := 0) rfl) id
    clear HS1 kd HP HBl HTr hc2 HL2 HOv2
    cases cB with
    | true =>
      have HF : Hid (bt < hi ∧ Kp (fun _ => False) w wc) := ⟨by have := HcB.out; simp at this; omega, HKw.out⟩
      clear HS
      go_wp2_with fail
      go_ret2
      exact Or.inl ⟨HF.out.1, rfl, HF.out.2⟩
    | false =>
      have HLe : Hid (hi ≤ bt) := by have := HcB.out; simp at this; show _ ≤ _; omega
      have HPr : Hid (Calls _ _ _ wc _) := promise_ok (HS.out.1.keep0 HKw.out) HS.out.2.1 (HKw.out.cellv HS.out.2.2.1 id) HS.out.2.2.2.1 bt HBt.out.1 (by have := HS.out.2.2.2.2; omega)
      have HNq : Hid (¬ SW6 sh mp g m gf d qb) := fun e => by have h1 := HS.out.1.blk _ e; have h2 := HQb.out.1; omega
      clear HcB
      go_wp2_with fail
      refine HPr.out.mono ?_
      rintro e9 w3 ⟨rfl, k3, hR⟩
      have k3' : Kp (SW6 sh mp g m gf d) w w3 := (HKw.out.mono (fun _ _ e => e.elim)).trans k3 (fun _ _ e => e)
      have kd : Kp (fun _ => False) w3 w3.drew := (Kp.refl _ _).drew
      have HAc : Hid (w3.cell? ⟨ac, 0, none⟩ = some (.pointer (some ⟨sh, 0, none⟩))) := k3'.cellv HS.out.2.2.1 HS.out.2.2.2.1
      have HCq : Hid (w3.cell? ⟨qb, 0, none⟩ = some (.int .i64 (bt : Int))) := k3.cellv c1 HNq.out
      have hR' : Res w3.drew Z wc.heap.size sh mp g bp d m gf b N 1 bt V := hR.keep0 kd
      have hac' : ac < wc.heap.size := Nat.lt_of_lt_of_le (World.block_lt_of_cell? _ _ HS.out.2.2.1) HKw.out.size
      have hqb' : qb < wc.heap.size := Nat.lt_of_lt_of_le HQb.out.2 HKc.out.size
      have hov' : Ow w3.drew w0.heap.size vc (cmdV bt) := ownsRow_keep (ownsRow_keep HOc.out k3 (fun x hx e => by
        have h1 := HS.out.1.blk _ e
        have h2 := (ownBlock_lt HOc.out hx).1
        have h3 := HK0.out.size
        omega)) kd (fun _ _ e => e)
      have HVn : Hid (Calls _ _ _ w3.drew _) := vote_noted (w := w) (wc := wc) (ac := ac) (qb := qb) (B := w0.heap.size) (vc := vc) HBt.out.1 HBt.out.2 HS.out.2.2.2.2 hR' HKw.out.size (k3'.trans (kd.mono (fun _ _ e => e.elim)) (fun _ _ e => e)) (kd.cellv HAc.out id) (kd.cellv HCq.out id) ⟨HS.out.2.2.2.1, hac'⟩ ⟨HNq.out, hqb'⟩ hov'
      have hS0 : w3.drew.cell? ⟨ac, 0, none⟩ = some (.pointer (some ⟨sh, 0, none⟩)) ∧ w3.drew.cell? ⟨qb, 0, none⟩ = some (.int .i64 (bt : Int)) := ⟨kd.cellv HAc.out id, kd.cellv HCq.out id⟩
      clear hR hR' hac' hqb' hov' k3 k3' kd HPr c1 HOc HNq
      go_upto_region 13 with fail
      refine ac13_region ⟨by kernel_rfl, by kernel_rfl, by kernel_rfl, by kernel_rfl, by kernel_rfl, by kernel_rfl, by kernel_rfl, by kernel_rfl, by kernel_rfl, by kernel_rfl, by kernel_rfl, by kernel_rfl, by kernel_rfl, by kernel_rfl, by kernel_rfl, by kernel_rfl, by kernel_rfl, by kernel_rfl, by kernel_rfl⟩ ac sh qb (bt : Int) (sl : Int) vc undef undef (fun d _ _ _ _ h => by cases d <;> exact h) (by rfl) (by rfl) (by rfl) (by rfl) (by rfl) hS0 (fun w9 => Kp (SW6 sh mp g m gf d) w w9 ∧ Res w9 Z w.heap.size sh mp g bp d m gf b N 2 bt (fun t => if t = sl then bt else V t)) HVn.out ?_
      rintro v1 v2 w4 ⟨k4, hR4⟩
      have HSy : Hid (Calls _ _ _ w4 _) := res_sync hR4 k4
      have c4 : w4.cell? ⟨ac, 0, none⟩ = some (.pointer (some ⟨sh, 0, none⟩)) := k4.cellv HS.out.2.2.1 HS.out.2.2.2.1
      clear hS0 HVn k4 hR4 HAc HCq
      simp only [Act.put, List.setIfInBounds_toArray, List.set_cons_succ, List.set_cons_zero]
      go_wp2_with fail
      refine HSy.out.mono ?_
      rintro e9 w5 ⟨rfl, k5, hR5⟩
      have HF : Hid (Kp (SW6 sh mp g m gf d) w w5 ∧ ResD w5 Z w.heap.size sh mp g bp d m gf b N 2 bt (fun t => if t = sl then bt else V t)) := ⟨k5, hR5⟩
      clear k5 hR5 HSy c4
      go_wp2_with fail
      go_ret2
      exact Or.inr ⟨HLe.out, rfl, HF.out⟩
end
end Go.Proofs.YtippipeebkkghaaGreatDoor
