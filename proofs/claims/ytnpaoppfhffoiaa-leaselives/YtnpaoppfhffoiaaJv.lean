/- All shards that wait, in order; slices of shards held against each other. -/
import Derived.Test.YtnpaoppfhffoiaaJu
import Derived.ChangeKeysEq
import Derived.Laws.StructEq
namespace Go.Proofs.Ytnpaoppfhffoiaa
set_option linter.unusedVariables false
set_option linter.unusedSimpArgs false
open Go.RowKit Go.Deep Go.Maps Go.Shelf Go.Lib Go.Sort

theorem keys_perm {l : List Wt} {D0 : DataW Value} {T : Int → Int → Option Value} {ss : List (Int × Int)} (hP : Pos l T) (hd : Pd D0 l.length T) (hn : (l.map key).Nodup) (hw : ∀ k, k < l.length → wf2 (l.getD k wt0).b (l.getD k wt0).i) (h : CP D0 (fun _ => false) ss) : ss.Perm (l.map key) := by
  refine (List.perm_ext_iff_of_nodup h.1 hn).2 (fun x => ?_)
  obtain ⟨a, b⟩ := x
  have hhas : wf2 a b → (Maps.has D0 (pk2 a b) = true ↔ (a, b) ∈ l.map key) := fun hx => by
    obtain ⟨p1, p2⟩ := has_pos hP a b
    constructor
    · intro hh
      by_cases hm : (a, b) ∈ l.map key
      · exact hm
      · rw [hd.no a b hx (p1 hm)] at hh; cases hh
    · intro hm
      obtain ⟨k, _, _, hT⟩ := p2 hm
      exact (hd.yes a b hx _ hT).1
  constructor
  · intro hx
    have hwx := h.2.1 _ hx
    exact (hhas hwx).1 ((h.2.2 (a, b) hwx).1 hx).1
  · intro hm
    obtain ⟨e, he, hk⟩ := List.mem_map.1 hm
    obtain ⟨k, hk1, hk2⟩ := List.getElem_of_mem he
    have hwx := hw k hk1
    rw [getD_of_get hk1, hk2] at hwx
    have e1 : e.b = a := congrArg Prod.fst hk
    have e2 : e.i = b := congrArg Prod.snd hk
    rw [e1, e2] at hwx
    exact (h.2.2 (a, b) hwx).2 ⟨(hhas hwx).2 hm, rfl⟩
theorem srtP_perm {a b : List (Int × Int)} (h : a.Perm b) : srtP a = srtP b := by
  have tr : ∀ x y z : Int × Int, (!(ltOf ris) y x) = true → (!(ltOf ris) z y) = true → (!(ltOf ris) z x) = true := fun x y z h1 h2 => by
    rw [ltR] at *
    simp only [Bool.not_eq_true', decide_eq_false_iff_not] at *
    omega
  have to : ∀ x y : Int × Int, ((!(ltOf ris) y x) || (!(ltOf ris) x y)) = true := fun x y => by
    rw [ltR, ltR]
    simp only [Bool.or_eq_true, Bool.not_eq_true', decide_eq_false_iff_not]
    omega
  refine List.Perm.eq_of_pairwise (le := fun x y => (!(ltOf ris) y x) = true) (fun x y _ _ h1 h2 => ?_) (List.pairwise_mergeSort tr to a) (List.pairwise_mergeSort tr to b) (((List.mergeSort_perm a _).trans h).trans (List.mergeSort_perm b _).symm)
  simp only [Bool.not_eq_true'] at h1 h2
  exact totR x y h2 h1

set_option maxRecDepth 100000 in
theorem keysF_ok (mb : Nat) (w : World) : Calls Try.prog 39 #[.map (some mb)] w fun e w' => e = .returned (.func (.func 51) #[] #[.pointer (some ⟨w.heap.size, 0, none⟩)]) ∧ w' = w.alloc (.cells #[.map (some mb)] 58) := by
  go_enter Try.func39, Try.ntmps39
  go_wp2
  go_ret
  exact ⟨rfl, rfl⟩

set_option maxRecDepth 100000 in
theorem collectP (Bm b nn : Nat) (D0 : DataW Value) (hsz : Maps.size D0 ≤ 100000) (w : World) (hBm : Bm < w.heap.size) (hm : w.cell? ⟨Bm, 0, none⟩ = some (.map (some b))) (hown : w.ownsMap Try.prog 39 idR b nn D0) :
    Calls Try.prog 50 #[.func (.func 51) #[] #[.pointer (some ⟨Bm, 0, none⟩)]] w fun e w' => ∃ v ss, e = .returned v ∧ CP D0 (fun _ => false) ss ∧ w'.ownsRow w.heap.size 39 2 v ss.length (pflat ss) ∧ Kp (fun _ => False) w w' := by
  have HE : Hid (Calls _ _ _ w _) := callsIn_wide.1 (apkeys Bm b nn D0 hsz w hBm hm hown)
  clear hown hm
  go_enter Try.func50, Try.ntmps50
  go_wp2_with fail
  refine HE.out.mono ?_
  rintro q w' ⟨v, ss, rfl, h1, h2, h3⟩
  have HF : Hid (CP D0 (fun _ => false) ss ∧ w'.ownsRow w.heap.size 39 2 v ss.length (pflat ss) ∧ Kp (fun _ => False) w w') := ⟨h1, h2, Kp.of_below h3⟩
  clear h1 h2 h3 HE
  go_wp2
  go_ret
  exact ⟨v, ss, rfl, HF.out⟩

set_option maxRecDepth 100000 in
set_option maxHeartbeats 800000 in
theorem sortedP (Bm b nn : Nat) (D0 : DataW Value) (hsz : Maps.size D0 ≤ 100000) (hlen : ∀ ss, CP D0 (fun _ => false) ss → ss.length ≤ 100000) (w : World) (hBm : Bm < w.heap.size) (hm : w.cell? ⟨Bm, 0, none⟩ = some (.map (some b))) (hown : w.ownsMap Try.prog 39 idR b nn D0) :
    Calls Try.prog 38 #[.func (.func 51) #[] #[.pointer (some ⟨Bm, 0, none⟩)], .func (.func 36) #[] #[]] w fun e w' => ∃ v ss, e = .returned v ∧ CP D0 (fun _ => false) ss ∧ Pr w' (fun b => w.heap.size ≤ b) v (srtP ss) ∧ Kp (fun _ => False) w w' := by
  have HE : Hid (Calls _ _ _ w _) := collectP Bm b nn D0 hsz w hBm hm hown
  have HL : Hid (∀ ss, CP D0 (fun _ => false) ss → ss.length ≤ 100000) := hlen
  clear hown hm hlen
  go_enter Try.func38, Try.ntmps38
  go_wp2_with fail
  refine HE.out.mono ?_
  rintro q w1 ⟨v, ss, rfl, h1, h2, h3⟩
  have HS : Hid (Calls _ _ _ w1 _) := sortOwn h2 (HL.out ss h1)
  have HB : Hid (∀ b, v.ownBlock = some b → w.heap.size ≤ b) := fun b e => (ownBlock_lt h2 e).1
  have HK : Hid (CP D0 (fun _ => false) ss ∧ Kp (fun _ => False) w w1) := ⟨h1, h3⟩
  clear h1 h2 h3 HE
  go_wp2_with fail
  refine HS.out.mono ?_
  rintro q w2 ⟨rfl, k2, p2⟩
  have HF : Hid (CP D0 (fun _ => false) ss ∧ Pr w2 (fun b => w.heap.size ≤ b) v (srtP ss) ∧ Kp (fun _ => False) w w2) := ⟨HK.out.1, p2.mono (fun b e => HB.out b e), HK.out.2.trans k2 (fun b hb e => by have := HB.out b e; omega)⟩
  clear k2 p2 HS
  go_wp2
  go_ret
  exact ⟨v, ss, rfl, HF.out⟩

set_option maxRecDepth 100000 in
set_option maxHeartbeats 800000 in
theorem lall_ok {w : World} {L h m : Nat} {v : Value} {l : List Wt} (x : Lz w L h m v l) (hl : l.length ≤ 900) :
    Calls Try.prog 17 #[.pointer (some ⟨L, 0, none⟩)] w fun r w' => ∃ rv, r = .returned rv ∧ Kp (fun _ => False) w w' ∧ Pr w' (fun b => w.heap.size ≤ b) rv (srtP (l.map key)) := by
  have HM : Hid (Calls _ _ _ w _) := lmade_ok x
  have c := x.c
  have c1 := x.x.c1
  have HK : Hid (Calls _ _ _ w _) := keysF_ok m w
  obtain ⟨T, ⟨D, hown, hd⟩, hP⟩ := x.x.mp
  have k1 : Kp (fun _ => False) w (w.alloc (.cells #[.map (some m)] 58)) := (Kp.refl _ _).alloc _
  have hl1 : Lv (w.alloc (.cells #[.map (some m)] 58)) w.heap.size [.map (some m)] := Lv.new w _ _
  have hperm : ∀ ss, CP D (fun _ => false) ss → ss.Perm (l.map key) := fun ss hs => keys_perm hP hd ((onc_iff l).1 x.x.nd) x.x.wf hs
  have HS : Hid (Calls _ _ _ (w.alloc (.cells #[.map (some m)] 58)) _) := sortedP w.heap.size m l.length D (by rw [hd.size]; omega) (fun ss hs => by rw [(hperm ss hs).length_eq, List.length_map]; omega) _ (by simp) (hl1.cell (j := 0) rfl) (by
    have hbl := hown.lt
    obtain ⟨es, clock, hb, Ft, hs, hD⟩ := hown
    exact ⟨es, clock, (k1.block m hbl (fun e => e)).trans hb, Ft, hs, hD⟩)
  have HP : Hid (∀ ss, CP D (fun _ => false) ss → srtP ss = srtP (l.map key)) := fun ss hs => srtP_perm (hperm ss hs)
  have K1 : Hid (Kp (fun _ => False) w (w.alloc (.cells #[.map (some m)] 58))) := k1
  clear x hl hown hd hP k1 hl1 hperm
  go_enter Try.func17, Try.ntmps17
  go_wp2_with fail
  refine HM.out.mono ?_
  rintro q w' ⟨rfl, hw⟩
  obtain rfl := hw.symm
  clear hw HM
  go_wp2_with fail
  refine HK.out.mono ?_
  rintro q w1 ⟨rfl, rfl⟩
  clear HK
  go_wp2_with fail
  refine HS.out.mono ?_
  rintro q w2 ⟨rv, ss, rfl, h1, h2, h3⟩
  have HF : Hid (Kp (fun _ => False) w w2 ∧ Pr w2 (fun b => w.heap.size ≤ b) rv (srtP (l.map key))) := ⟨K1.out.trans h3 (fun _ _ e => e), by rw [← HP.out ss h1]; exact h2.mono (fun b e => Nat.le_trans K1.out.size e)⟩
  clear h1 h2 h3 HS
  go_wp2
  go_ret
  exact ⟨rv, rfl, HF.out⟩

theorem infoIntJ : (Try.prog.info? 3).map (fun i => (i.zero, i.size, i.bytes)) = some (some (.int .i64 0), 1, 8) := by kernel_rfl
theorem partP (a b : Int) (w : World) : (part 3 #[.int .i64 a, .int .i64 b] 0).run Try.prog w = .ok (.int .i64 a) w ∧ (part 3 #[.int .i64 a, .int .i64 b] 1).run Try.prog w = .ok (.int .i64 b) w := ⟨by kernel_rfl, by kernel_rfl⟩
theorem eqP (a b c d : Int) (w : World) : (Op.equalIn 10000 39 (pv2 a b) (pv2 c d)).run Try.prog w = .ok ((a == c) && (b == d)) w := by
  obtain ⟨ti, hi0, _⟩ := info_parts infoIntJ
  rw [run_equalIn_array w 9999 _ _ Try.underlying39 hi0]
  have e1 : List.range 2 = [0, 1] := rfl
  rw [e1]
  have h := fun x y z => run_equalIn_int (P := Try.prog) z 9998 3 .i64 .i64 x y Try.underlying3
  simp only [Op.eqItems, Sem.run_bind, p2c.2, Nat.zero_mul, Nat.one_mul, (partP a b w).1, (partP a b w).2, (partP c d w).1, (partP c d w).2, Result.andThen_ok]
  rw [h a c w]
  simp only [Result.andThen_ok]
  by_cases e : a = c
  · subst e
    have h2 := h b d w
    rw [show (9998 + 1 : Nat) = 9999 from rfl] at h2
    simp only [beq_self_eq_true, Bool.not_true, Bool.false_eq_true, if_false, Bool.true_and, Sem.run_bind, (partP a b w).2, (partP a d w).2, Result.andThen_ok, h2]
    cases (b == d) <;> simp
  · simp [e]
theorem neqP (a b : Int) (w : World) : (binOp .neq 39 (pv2 a b) (pv2 a b)).run Try.prog w = .ok (.bool false) w := by
  rw [run_neq_struct, eqP]
  simp
theorem eqgP : Try.prog.eqGuardType Try.prog.depth 39 = false := by kernel_rfl
theorem gdP (x y : Operand) (a b : Int) (w : World) : (eqGuard .neq 39 x y (pv2 a b) (pv2 a b)).run Try.prog w = .ok () w := run_eqGuard_agg _ _ _ _ _ _ _ eqgP

set_option maxRecDepth 100000 in
set_option maxHeartbeats 1600000 in
/-- the same shards -/
theorem pequal {w : World} {Z1 Z2 : Nat → Prop} {v1 v2 : Value} {l : List (Int × Int)} (h1 : Pr w Z1 v1 l) (h2 : Pr w Z2 v2 l) (hl : l.length ≤ 100000) :
    Calls Try.prog 14 #[v1, v2] w fun e w' => e = .returned (.bool true) ∧ Kp (fun _ => False) w w' := by
  have H1 : Hid (Pr w Z1 v1 l) := h1
  have H2 : Hid (Pr w Z2 v2 l) := h2
  obtain ⟨p1, c1, rfl, q1⟩ := h1
  obtain ⟨p2, c2, rfl, q2⟩ := h2
  have Q1 : Hid (∀ j, j < l.length → ∃ g o, p1 = some ⟨g, o, none⟩ ∧ Z1 g ∧ w.cell? ⟨g, o + j * 2, none⟩ = some (.int .i64 (l.getD j (0, 0)).1) ∧ w.cell? ⟨g, o + j * 2 + 1, none⟩ = some (.int .i64 (l.getD j (0, 0)).2)) := q1
  have Q2 : Hid (∀ j, j < l.length → ∃ g o, p2 = some ⟨g, o, none⟩ ∧ Z2 g ∧ w.cell? ⟨g, o + j * 2, none⟩ = some (.int .i64 (l.getD j (0, 0)).1) ∧ w.cell? ⟨g, o + j * 2 + 1, none⟩ = some (.int .i64 (l.getD j (0, 0)).2)) := q2
  obtain ⟨n, hn⟩ : ∃ n, n = l.length := ⟨_, rfl⟩
  rw [← hn] at Q1 Q2 hl ⊢
  clear q1 q2 hn H1 H2
  go_enter Try.func14, Try.ntmps14
  go_wp2
  go_loopg [13] n (fun gk i wr => ∃ k : Nat, k ≤ n ∧ gk = n - k ∧ i = .int .i64 k ∧ Hid (Kp (fun _ => False) w wr))
  case atStart => exact ⟨0, Nat.zero_le _, rfl, rfl, Kp.refl _ _⟩
  case round =>
    obtain ⟨k, hk, rfl, rfl, HK⟩ := hrel
    by_cases hlt : (k : Int) < (n : Int)
    · obtain ⟨g1, o1, rfl, _, a1, b1⟩ := Q1.out k (by omega)
      obtain ⟨g2, o2, rfl, _, a2, b2⟩ := Q2.out k (by omega)
      replace a1 := HK.out.cellv a1 (fun e => e)
      replace b1 := HK.out.cellv b1 (fun e => e)
      replace a2 := HK.out.cellv a2 (fun e => e)
      replace b2 := HK.out.cellv b2 (fun e => e)
      obtain ⟨xa, hxa⟩ : ∃ x, x = (l.getD k (0, 0)).1 := ⟨_, rfl⟩
      obtain ⟨xb, hxb⟩ : ∃ x, x = (l.getD k (0, 0)).2 := ⟨_, rfl⟩
      rw [← hxa] at a1 a2
      rw [← hxb] at b1 b2
      clear hxa hxb
      have hnq := neqP xa xb
      have hgd := fun x y => gdP x y xa xb
      go_wp2_with fail
      go_quiet (fail)
      have HK2 : Hid (Kp (fun _ => False) w (wr.drewN nq)) := HK.out.drewN _
      clear a1 a2 b1 b2 hnq hgd
      go_wp2
      go_roundg (n - (k + 1))
      case rel => exact ⟨k + 1, by omega, rfl, by go_num, HK2⟩
      case measure => omega
    · go_wp2
      go_ret
      exact ⟨rfl, HK.out⟩
end Go.Proofs.Ytnpaoppfhffoiaa
