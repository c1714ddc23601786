/- An acceptor: Prepare, Accept. -/
import Derived.Test.YtippipeebkkghaaGreatDoorVoj
namespace Go.Proofs.YtippipeebkkghaaGreatDoor
set_option linter.unusedVariables false
set_option linter.unusedSimpArgs false
open Go.RowKit Go.Deep Go.Maps

/-- an acceptor's shelf behind a call that has synced -/
def ResD (w' : World) (Z : Nat → Prop) (w0 sh mp g bp d m gf b N k hi : Nat) (V : Nat → Nat) : Prop := ∃ Z' gf' N' h', (gf' = gf ∨ w0 ≤ gf') ∧ N' ≤ N + k ∧ Shr w' Z' sh mp g bp d m gf' 398 b N' h' ∧ Hs h' hi V ∧ Dur w' g bp d m gf' 398 b N' h' ∧ ∀ v, Z' v → Z v ∨ w0 ≤ v

/-- what a call may write, seen from before a log that was written anew -/
theorem sw6_back {sh mp g m gf gf' d x n : Nat} (hg : gf' = gf ∨ n ≤ gf') (hx : x < n) (h : SW6 sh mp g m gf' d x) : SW6 sh mp g m gf d x := by
  rcases hg with rfl | hg
  · exact h
  · rcases h with e | e | e | e | e | e
    · exact Or.inl e
    · exact Or.inr (Or.inl e)
    · exact Or.inr (Or.inr (Or.inl e))
    · omega
    · exact Or.inr (Or.inr (Or.inr (Or.inr (Or.inl e))))
    · exact Or.inr (Or.inr (Or.inr (Or.inr (Or.inr e))))

section
variable {w : World} {Z : Nat → Prop} {sh mp g bp d m gf b N : Nat} {h : List Rc} {hi : Nat} {V : Nat → Nat}

/-- Sync, behind whatever -/
theorem res_sync {w1 : World} {k hi' : Nat} {V' : Nat → Nat} (hR : Res w1 Z w.heap.size sh mp g bp d m gf b N k hi' V') (hk : Kp (SW6 sh mp g m gf d) w w1) :
    Calls Tryz.prog 21 #[.pointer (some ⟨sh, 0, none⟩)] w1 fun e9 w' => e9 = .returned (.int .i64 0) ∧ Kp (SW6 sh mp g m gf d) w w' ∧ ResD w' Z w.heap.size sh mp g bp d m gf b N k hi' V' := by
  obtain ⟨Z', gf', N', h', e, hn, hs, hh, hzz⟩ := hR
  refine (r9sync_ok hs).mono ?_
  rintro e9 w' ⟨rfl, k2, hs2, hd2⟩
  exact ⟨rfl, hk.trans (k2.mono (S' := SW6 sh mp g m gf d) (fun v _ e => e.elim Or.inl (fun e => Or.inr (Or.inl e)))) (fun _ _ e => e), Z', gf', N', h', e, hn, hs2, hh, hd2, hzz⟩

set_option maxRecDepth 100000 in
set_option maxHeartbeats 3200000 in
theorem prepare_ok {ac : Nat} (x : Shr w Z sh mp g bp d m gf 398 b N h) (hs : Hs h hi V) (hc : w.cell? ⟨ac, 0, none⟩ = some (.pointer (some ⟨sh, 0, none⟩))) (hna : ¬ SW6 sh mp g m gf d ac) (bt sl : Nat) (hb : 1 ≤ bt ∧ bt ≤ 20) (hsl : 1 ≤ sl ∧ sl ≤ 20) (hN : N + 1 ≤ 1000) :
    Calls Tryz.prog 5 #[.pointer (some ⟨ac, 0, none⟩), .int .i64 (bt : Int), .int .i64 (sl : Int)] w fun e9 w' =>
      (bt < hi ∧ (∃ v, e9 = .returned (.tuple #[.bool false, v, .int .i64 0])) ∧ Kp (fun _ => False) w w') ∨
      (hi ≤ bt ∧ (∃ v, e9 = .returned (.tuple #[.bool true, v, .int .i64 0])) ∧ Kp (SW6 sh mp g m gf d) w w' ∧ ResD w' Z w.heap.size sh mp g bp d m gf b N 1 bt V) := by
  have HAs : Hid (Calls _ _ _ w _) := vasked_ok hc bt sl hb hsl
  obtain ⟨qb, hqb⟩ : ∃ y, y = w.heap.size := ⟨_, rfl⟩
  obtain ⟨w0, hw0⟩ : ∃ y, y = w.alloc (.cells #[.int .i64 (bt : Int)] 68) := ⟨_, rfl⟩
  have HK0 : Hid (Kp (fun _ => False) w w0) := by rw [hw0]; exact (Kp.refl _ _).alloc _
  have HL0 : Hid (Lv w0 qb [.int .i64 (bt : Int)]) := by rw [hw0, hqb]; exact Lv.new _ _ _
  have hc0 : w0.cell? ⟨ac, 0, none⟩ = some (.pointer (some ⟨sh, 0, none⟩)) := HK0.out.cellv hc id
  have HS : Hid (Shr w Z sh mp g bp d m gf 398 b N h ∧ Hs h hi V ∧ w.cell? ⟨ac, 0, none⟩ = some (.pointer (some ⟨sh, 0, none⟩)) ∧ ¬ SW6 sh mp g m gf d ac ∧ N + 1 ≤ 1000) := ⟨x, hs, hc, hna, hN⟩
  have HP : Hid (∀ u, Kp (fun _ => False) w0 u → Calls Tryz.prog 19 #[.pointer (some ⟨ac, 0, none⟩)] u fun e w' => e = .returned (.agg #[.int .i64 (hi : Int)]) ∧ Kp (fun _ => False) u w') := fun u k => promised_ok ((x.keep0 HK0.out).keep0 k).sk hs (k.cellv hc0 id)
  obtain ⟨cB, hcB⟩ : ∃ y : Bool, y = decide ((bt : Int) < (hi : Int)) := ⟨_, rfl⟩
  have HBl : Hid (∀ u, Calls Tryz.prog 18 #[.agg #[.int .i64 (bt : Int)], .agg #[.int .i64 (hi : Int)]] u fun e w' => e = .returned (.bool cB) ∧ Kp (fun _ => False) u w') := fun u => by
    rw [hcB]
    exact below_ok _ _ u
  have HcB : Hid (cB = decide ((bt : Int) < (hi : Int))) := hcB
  have HBt : Hid (1 ≤ bt ∧ bt ≤ 20) := hb
  have HQ : Hid (qb = w.heap.size) := hqb
  clear x hs hc hna hN hcB hb hsl
  go_enter Tryz.func5, Tryz.ntmps5
  go_wp2_with fail
  refine HAs.out.mono ?_
  rintro e9 w9 ⟨rfl, hw9⟩
  have hw8 := hw9.symm
  subst hw8
  clear hw9 HAs
  go_upto_region 5 with fail
  rw [← hw0, ← hqb]
  clear hw0 hqb
  have kd : Kp (fun _ => False) w0 w0.drew := (Kp.refl _ _).drew
  have HS1 : Hid (∀ z, Kp (fun _ => False) w0 z → Kp (fun _ => False) w0 z ∧ z.cell? ⟨qb, 0, none⟩ = some (.int .i64 (bt : Int)) ∧ z.cell? ⟨ac, 0, none⟩ = some (.pointer (some ⟨sh, 0, none⟩))) := fun z k => ⟨k, k.cellv (HL0.out.cell (j := 0) rfl) id, k.cellv hc0 id⟩
  have HTr : Hid (∀ u u' : World, Kp (fun _ => False) w0 u → Kp (fun _ => False) u u' → Kp (fun _ => False) w0 u') := fun u u' h1 h2 => h1.trans h2 (fun _ _ e => e)
  go_cut [25] (fun v8 wz => v8 = .bool cB ∧ Hid (Kp (fun _ => False) w0 wz))
  case first =>
    clear HS HcB
    go_region_held3 (fun z => Kp (fun _ => False) w0 z ∧ z.cell? ⟨qb, 0, none⟩ = some (.int .i64 (bt : Int)) ∧ z.cell? ⟨ac, 0, none⟩ = some (.pointer (some ⟨sh, 0, none⟩)))
      (first
        | exact HS1.out _ kd
        | exact HS1.out _ kw1
        | exact HS1.out _ kw2)
      (first
        | (go_at_call 19; refine (HP.out _ kd).mono ?_; rintro e9 w7 ⟨rfl, k7⟩; have kw1 := HTr.out _ _ kd k7)
        | (go_at_call 18; refine (HBl.out _).mono ?_; rintro e9 w8 ⟨rfl, k8⟩; have kw2 := HTr.out _ _ kw1 k8))
    all_goals
      go_simp
      go_wp2_with fail
      go_meet
      first
        | exact ⟨rfl, kw2⟩
        | trace_state
  case rest =>
    obtain ⟨rfl, HKc⟩ := hcut
    have HKw : Hid (Kp (fun _ => False) w wc) := HK0.out.trans HKc.out (fun _ _ e => e)
    have c1 : wc.cell? ⟨qb, 0, none⟩ = some (.int .i64 (bt : Int)) := HKc.out.cellv (HL0.out.cell (j := 0) rfl) id
    clear HS1 kd HP HBl HTr hc0 HL0
    cases cB with
    | true =>
      have HF : Hid (bt < hi ∧ Kp (fun _ => False) w wc) := ⟨by have := HcB.out; simp at this; omega, HKw.out⟩
      clear HS
      go_wp2_with fail
      go_ret3
      exact Or.inl ⟨HF.out.1, ⟨_, rfl⟩, HF.out.2⟩
    | false =>
      have HLe : Hid (hi ≤ bt) := by have := HcB.out; simp at this; show _ ≤ _; omega
      have HPr : Hid (Calls _ _ _ wc _) := promise_ok (HS.out.1.keep0 HKw.out) HS.out.2.1 (HKw.out.cellv HS.out.2.2.1 id) HS.out.2.2.2.1 bt HBt.out HS.out.2.2.2.2
      clear HcB
      go_wp2_with fail
      refine HPr.out.mono ?_
      rintro e9 w1 ⟨rfl, k1, hR⟩
      have hR' : Res w1 Z w.heap.size sh mp g bp d m gf b N 1 bt V := hR.mono HKw.out.size (Nat.le_refl _)
      have k1' : Kp (SW6 sh mp g m gf d) w w1 := (HKw.out.mono (fun _ _ e => e.elim)).trans k1 (fun _ _ e => e)
      have HSy : Hid (Calls _ _ _ w1 _) := res_sync hR' k1'
      have c2 : w1.cell? ⟨ac, 0, none⟩ = some (.pointer (some ⟨sh, 0, none⟩)) := k1'.cellv HS.out.2.2.1 HS.out.2.2.2.1
      clear hR hR' k1 k1' HPr c1
      go_wp2_with fail
      refine HSy.out.mono ?_
      rintro e9 w2 ⟨rfl, k2, hR2⟩
      have HK2 : Hid (Kp (SW6 sh mp g m gf d) w w2) := k2
      obtain ⟨Z', gf', N', h', e, hn, hs2, hh2, hd2, hzz⟩ := hR2
      have c3 : w2.cell? ⟨ac, 0, none⟩ = some (.pointer (some ⟨sh, 0, none⟩)) := k2.cellv HS.out.2.2.1 HS.out.2.2.2.1
      have HVo : Hid (Calls _ _ _ w2 _) := votes_ok hs2.sk hh2 c3 (sl : Int)
      have HR2 : Hid (∀ w3, Kp (fun _ => False) w2 w3 → ResD w3 Z w.heap.size sh mp g bp d m gf b N 1 bt V) := fun w3 k => ⟨Z', gf', N', h', e, hn, hs2.keep0 k, hh2, hd2.keep k (fun _ _ e => e), hzz⟩
      clear k2 hs2 hh2 hd2 HSy c2
      go_wp2_with fail
      refine HVo.out.mono ?_
      rintro e9 w3 ⟨v, l, ss, rfl, k3, _⟩
      have HF : Hid (Kp (SW6 sh mp g m gf d) w w3 ∧ ResD w3 Z w.heap.size sh mp g bp d m gf b N 1 bt V) := ⟨HK2.out.trans (k3.mono (fun _ _ e => e.elim)) (fun _ _ e => e), HR2.out w3 k3⟩
      clear k3 HVo HR2 HK2
      go_wp2_with fail
      go_ret3
      exact Or.inr ⟨HLe.out, ⟨_, rfl⟩, HF.out⟩
end
end Go.Proofs.YtippipeebkkghaaGreatDoor
