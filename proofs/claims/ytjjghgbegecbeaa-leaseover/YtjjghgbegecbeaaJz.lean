/- LeaseOver. -/
import Derived.Test.YtjjghgbegecbeaaJx
import Derived.Test.YtjjghgbegecbeaaJh
import Derived.Test.YtjjghgbegecbeaaDn
import Derived.Test.YtjjghgbegecbeaaDi
namespace Go.Proofs.Ytjjghgbegecbeaa
set_option linter.unusedVariables false
set_option linter.unusedSimpArgs false
open Go.RowKit Go.Deep Go.Maps Go.Shelf Go.Lib Go.Sort

theorem over1 {s p : List Nat} (H : adm 2 (s ++ p)) (h : waits ((p.count 1 : Nat) : Int) + 83 ≤ waits (((s ++ p).count 1 : Nat) : Int)) : 41 ≤ s.count 0 := by
  have hb := bounds H (a := 1) (b := 0) (by omega) (by omega)
  rw [List.count_append] at h
  unfold waits at h
  omega
theorem over2 {s p : List Nat} (h : 41 ≤ s.count 0) : decide (waits (((s ++ p).count 0 : Nat) : Int) < waits (waits ((p.count 0 : Nat) : Int) + 40)) = false := by
  rw [List.count_append]
  apply decide_eq_false
  unfold waits
  omega
/-- the clocks and the list behind k ticks: until, told, begun -/
def St (w : World) (b t m L h mm s1 : Nat) (wr : World) (k : Nat) (u : Int) (tb bg : Bool) : Prop :=
  ∃ (hh : List Nat) (v1 : Value) (l1 : List Wt), Cs wr b t m 2 hh ∧ Lz wr L h mm v1 l1 ∧ (∀ x, Ls L h mm v1 x → s1 ≤ x) ∧ Kp (fun _ => False) w wr ∧ hh.length ≤ k ∧ s1 ≤ wr.heap.size ∧
    ((bg = false ∧ tb = false ∧ l1 = []) ∨ (bg = true ∧ ∃ s p, hh = s ++ p ∧ u = waits ((p.count 0 : Nat) : Int) + 40 ∧ ((tb = false ∧ l1 = [⟨1, 1, waits ((p.count 1 : Nat) : Int) + 83⟩]) ∨ (tb = true ∧ l1 = [] ∧ 41 ≤ s.count 0))))
theorem now0 (h : List Nat) : nowX 2 h 0 = ((h.count 0 : Nat) : Int) := by unfold nowX; rw [if_neg (by omega)]; rfl
theorem now1 (h : List Nat) : nowX 2 h 1 = ((h.count 1 : Nat) : Int) := by unfold nowX; rw [if_neg (by omega)]; rfl
theorem tick_part (s p : List Nat) (x : Int) : ∃ s', tickH 2 (s ++ p) x = s' ++ p ∧ s.count 0 ≤ s'.count 0 := by
  unfold tickH
  split
  · exact ⟨s, rfl, Nat.le_refl _⟩
  · split
    · exact ⟨x.toNat :: s, rfl, by rw [List.count_cons]; omega⟩
    · exact ⟨s, rfl, Nat.le_refl _⟩

set_option maxRecDepth 100000 in
set_option maxHeartbeats 25600000 in
theorem leaseOver_walk (v : Value) (Ln : Nat) (w : World) (hv : Ints w v Ln) : Calls Try.prog 6 #[v] w fun e w' => e = .returned (.bool true) ∧ Kp (fun _ => False) w w' := by
  obtain ⟨p, c, zs, rfl, hzl, hc, hz, hL⟩ := hv
  have HA : Hid (∀ w, Calls _ _ _ w _) := fun w => leaseHolds_walk 0 0 w
  have HB : Hid (∀ w, Calls _ _ _ w _) := fun w => leaseEnds_walk 1 1 0 false w (by decide) (by decide)
  have HN : Hid (Calls Try.prog 24 #[.int .i64 2] w _) := cknew_cs 2 w (by decide) (by decide)
  have HL : Hid (∀ w, Calls _ _ _ w _) := fun w => lnew_ok w
  have HZ : Hid (∀ j, j < Ln → ∃ b o, p = some ⟨b, o, none⟩ ∧ b < w.heap.size ∧ w.cell? ⟨b, o + j, none⟩ = some (.int .i64 (zs.getD j 0))) := fun j hj => by
    obtain ⟨b, o, e, hcc⟩ := hz j (by omega)
    exact ⟨b, o, e, World.block_lt_of_cell? w _ hcc, hcc⟩
  have HLN : Hid (Ln * 8 ≤ 140737488355328) := hL
  have HM3 : Hid (∀ z : Int, ∃ m : Int, wrap64 ((IntKind.u64.wrap z).tmod 3) = m ∧ 0 ≤ m ∧ m < 3) := fun z => md_eq2 3 z (by omega) (by omega)
  clear hz hzl hc hL
  go_enter Try.func6, Try.ntmps6
  go_wp2_with fail
  refine HN.out.mono ?_
  rintro e w1 ⟨b, t, m, rfl, k1, hb, ht, hm, hC⟩
  have HK1 : Hid (Kp (fun _ => False) w w1 ∧ w.heap.size ≤ b ∧ w.heap.size ≤ t ∧ w.heap.size ≤ m ∧ Cs w1 b t m 2 []) := ⟨k1, hb, ht, hm, hC⟩
  clear HN k1 hb ht hm hC
  go_wp2_with fail
  refine (HL.out w1).mono ?_
  rintro e w2 ⟨L, h, mm, rfl, k2, x2, b2⟩
  obtain ⟨s1, hs1⟩ : ∃ q, q = w1.heap.size := ⟨_, rfl⟩
  have hlts : b < w1.heap.size ∧ t < w1.heap.size ∧ m < w1.heap.size := ⟨World.block_lt_of_cell? w1 _ HK1.out.2.2.2.2.1.c0, HK1.out.2.2.2.2.1.row.lt, HK1.out.2.2.2.2.1.mp.lt⟩
  have HBT : Hid (b < s1 ∧ t < s1 ∧ m < s1 ∧ w.heap.size ≤ b ∧ w.heap.size ≤ t ∧ w.heap.size ≤ m ∧ w.heap.size ≤ s1) := by
    rw [hs1]
    exact ⟨hlts.1, hlts.2.1, hlts.2.2, HK1.out.2.1, HK1.out.2.2.1, HK1.out.2.2.2.1, HK1.out.1.size⟩
  have HS2 : Hid (St w b t m L h mm s1 w2 0 0 false false) := ⟨[], _, [], HK1.out.2.2.2.2.keep k2 (fun e => e) (fun e => e) (fun e => e), x2, by rw [hs1]; exact b2, HK1.out.1.trans k2 (fun _ _ e => e), Nat.le_refl _, by rw [hs1]; exact k2.size, Or.inl ⟨rfl, rfl, rfl⟩⟩
  clear k2 x2 b2 hs1 hlts HK1 HL
  go_wp2
  go_loopg [6, 7, 8, 20] Ln (fun gk v6 v7 v8 i wr => ∃ (k : Nat) (u : Int) (tb bg : Bool), k ≤ Ln ∧ gk = Ln - k ∧ v6 = .int .i64 u ∧ v7 = .bool tb ∧ v8 = .bool bg ∧ i = .int .i64 k ∧ Hid (St w b t m L h mm s1 wr k u tb bg))
  case atStart => exact ⟨0, 0, false, false, Nat.zero_le _, rfl, rfl, rfl, rfl, rfl, HS2⟩
  case round =>
    obtain ⟨k, u, tb, bg, hk, rfl, rfl, rfl, rfl, rfl, HS⟩ := hrel
    clear HS2
    by_cases hlt : (k : Int) < (Ln : Int)
    · obtain ⟨pb, po, rfl, hpb, hcell⟩ := HZ.out k (by omega)
      obtain ⟨hh, v1, l1, hC, hX, hLs, hK, hlen, hsz, hcase⟩ := HS.out
      have hcz := hK.cellv hcell (fun e => e)
      obtain ⟨n, hn, hn0, hn3⟩ := HM3.out (zs.getD k 0)
      obtain ⟨z, hzz⟩ : ∃ z, z = zs.getD k 0 := ⟨_, rfl⟩
      rw [← hzz] at hcz hn
      have HKK : Hid (k < Ln ∧ Ln * 8 ≤ 140737488355328) := ⟨by omega, HLN.out⟩
      have hwk : wrap64 ((k : Int) + 1) = ((k + 1 : Nat) : Int) := by have := HLN.out; unfold wrap64; omega
      clear hzz hcell hpb
      by_cases hA : n = 2 ∧ bg = false
      · obtain ⟨rfl, rfl⟩ := hA
        rcases hcase with ⟨_, rfl, rfl⟩ | ⟨e, _⟩
        · have H0 := cknow_cs hC 0
          rw [now0] at H0
          have H0 : Hid (Calls _ _ _ wr _) := H0
          have HST : Hid (Cs wr b t m 2 hh ∧ Lz wr L h mm v1 [] ∧ (∀ x, Ls L h mm v1 x → s1 ≤ x) ∧ Kp (fun _ => False) w wr ∧ hh.length ≤ k ∧ s1 ≤ wr.heap.size) := ⟨hC, hX, hLs, hK, hlen, hsz⟩
          have HU : Hid (∀ w, Calls _ _ _ w _) := fun w => until_ok ((hh.count 0 : Nat) : Int) w
          obtain ⟨c0, hc0⟩ : ∃ c0 : Int, c0 = ((hh.count 0 : Nat) : Int) := ⟨_, rfl⟩
          rw [← hc0] at H0 HU
          have HC0 : Hid (c0 = ((hh.count 0 : Nat) : Int)) := hc0
          clear hC hX hLs hK hlen hsz hc0 HS hn0 hn3
          go_wp2_with fail
          refine H0.out.mono ?_
          rintro e w3 ⟨rfl, k3⟩
          have HK3 : Hid (Kp (fun _ => False) wr w3) := k3
          clear H0 k3
          go_wp2_with fail
          refine (HU.out _).mono ?_
          rintro e w3' ⟨rfl, hw⟩
          obtain rfl := hw.symm
          clear hw HU
          have H1 := cknow_cs (HST.out.1.keep HK3.out (fun e => e) (fun e => e) (fun e => e)) 1
          rw [now1] at H1
          have H1 : Hid (Calls _ _ _ w3 _) := H1
          obtain ⟨c1, hc1⟩ : ∃ c1 : Int, c1 = ((hh.count 1 : Nat) : Int) := ⟨_, rfl⟩
          rw [← hc1] at H1
          have HC1 : Hid (c1 = ((hh.count 1 : Nat) : Int)) := hc1
          clear hc1
          go_wp2_with fail
          refine H1.out.mono ?_
          rintro e w4 ⟨rfl, k4⟩
          have HK4 : Hid (Kp (fun _ => False) wr w4) := HK3.out.trans k4 (fun _ _ e => e)
          have HR : Hid (Calls _ _ _ w4 _) := lretire_ok (HST.out.2.1.keep0 HK4.out) 1 1 c1 (by simp) ⟨by decide, by decide⟩
          clear H1 k4
          go_wp2_with fail
          refine HR.out.mono ?_
          rintro e w5 ⟨rfl, k5, v5, l5, x5, p5, b5⟩
          have HF : Hid (St w b t m L h mm s1 w5 (k + 1) (waits c0 + 40) false true) := by
            obtain ⟨q1, q2, q3, q4, q5, q6⟩ := HST.out
            have hbt := HBT.out
            have hl5 : l5 = [⟨1, 1, waits c1 + 83⟩] := by
              have e1 : addW [] ⟨1, 1, waits c1 + 83⟩ = [⟨1, 1, waits c1 + 83⟩] := by unfold addW; rw [if_neg (by simp)]; rfl
              rw [e1] at p5
              exact List.perm_singleton.1 p5
            have hns : ∀ y, y < s1 → ¬ Hs h mm v1 y := fun y hy e => by have := q3 y (Or.inr e); omega
            refine ⟨hh, v5, l5, (q1.keep HK4.out (fun e => e) (fun e => e) (fun e => e)).keep k5 (hns b hbt.1) (hns t hbt.2.1) (hns m hbt.2.2.1), x5, lgrow (w0 := w) q3 (Nat.le_trans q6 HK4.out.size) b5, (q4.trans HK4.out (fun _ _ e => e)).trans k5 (fun y hy e => by have := q3 y (Or.inr e); omega), by omega, Nat.le_trans (Nat.le_trans q6 HK4.out.size) k5.size, Or.inr ⟨rfl, [], hh, rfl, by rw [HC0.out], Or.inl ⟨rfl, by rw [hl5, HC1.out]⟩⟩⟩
          clear HR k5 x5 p5 b5
          go_wp2
          go_roundg (Ln - (k + 1))
          case rel => exact ⟨k + 1, _, false, true, by have := HKK.out; omega, rfl, rfl, rfl, rfl, by first | rfl | (simp; done) | go_num, HF⟩
          case measure => have := HKK.out; omega
        · cases e
      · obtain ⟨x, hx⟩ : ∃ x : Int, n.tmod 2 = x := ⟨_, rfl⟩
        have HT : Hid (Calls _ _ _ wr _) := cktick_cs hC x (by have := HLN.out; omega)
        have HST : Hid (Cs wr b t m 2 hh ∧ Lz wr L h mm v1 l1 ∧ (∀ x, Ls L h mm v1 x → s1 ≤ x) ∧ Kp (fun _ => False) w wr ∧ hh.length ≤ k ∧ s1 ≤ wr.heap.size) := ⟨hC, hX, hLs, hK, hlen, hsz⟩
        have htl := tickH_len 2 hh x
        obtain ⟨te, hte⟩ : ∃ te, te = tickE 2 hh x := ⟨_, rfl⟩
        rw [← hte] at HT
        clear hC hX hLs hK hlen hsz HS hte
        -- the state behind the tick
        have HTK : Hid (∀ w3, Kp (fun y => y = t ∨ y = m) wr w3 → Cs w3 b t m 2 (tickH 2 hh x) → Cs w3 b t m 2 (tickH 2 hh x) ∧ Lz w3 L h mm v1 l1 ∧ (∀ x, Ls L h mm v1 x → s1 ≤ x) ∧ Kp (fun _ => False) w w3 ∧ (tickH 2 hh x).length ≤ k + 1 ∧ s1 ≤ w3.heap.size) := fun w3 k3 hC3 => by
          obtain ⟨q1, q2, q3, q4, q5, q6⟩ := HST.out
          have hbt := HBT.out
          refine ⟨hC3, q2.keep k3 (fun y hy e => ?_), q3, q4.trans k3 (fun y hy e => ?_), by omega, Nat.le_trans q6 k3.size⟩
          · have := q3 y hy
            rcases e with e | e <;> omega
          · rcases e with e | e <;> omega
        cases bg with
        | false =>
          have hn2 : ¬ n = 2 := fun e => hA ⟨e, rfl⟩
          have hd2 : decide (n = 2) = false := decide_eq_false hn2
          rcases hcase with ⟨_, rfl, rfl⟩ | ⟨e, _⟩
          · clear hn0 hn3 hA htl
            go_wp2_with fail
            refine HT.out.mono ?_
            rintro e w3 ⟨rfl, k3, hC3⟩
            have HF : Hid (St w b t m L h mm s1 w3 (k + 1) u false false) := by
              obtain ⟨q1, q2, q3, q4, q5, q6⟩ := HTK.out w3 k3 hC3
              exact ⟨_, _, _, q1, q2, q3, q4, q5, q6, Or.inl ⟨rfl, rfl, rfl⟩⟩
            clear HT k3 hC3 HTK
            go_wp2
            go_roundg (Ln - (k + 1))
            case rel => exact ⟨k + 1, u, false, false, by have := HKK.out; omega, rfl, rfl, rfl, rfl, by first | rfl | (simp; done) | go_num, HF⟩
            case measure => have := HKK.out; omega
          · cases e
        | true =>
          rcases hcase with ⟨e, _⟩ | ⟨_, s, pp, hsp, hu, hcase⟩
          · cases e
          · have HTP : Hid (∃ s', tickH 2 hh x = s' ++ pp ∧ s.count 0 ≤ s'.count 0) := by rw [hsp]; exact tick_part s pp x
            have HUU : Hid (u = waits ((pp.count 0 : Nat) : Int) + 40) := hu
            have HCA : Hid ((tb = false ∧ l1 = [⟨1, 1, waits ((pp.count 1 : Nat) : Int) + 83⟩]) ∨ (tb = true ∧ l1 = [] ∧ 41 ≤ s.count 0)) := hcase
            clear hn0 hn3 hA htl hsp hu hcase
            by_cases hd2 : n = 2
            · subst hd2
              obtain rfl : x = 0 := by rw [← hx]; decide
              clear hx
              go_wp2_with fail
              refine HT.out.mono ?_
              rintro e w3 ⟨rfl, k3, hC3⟩
              have HS3 := HTK.out w3 k3 hC3
              obtain ⟨s', hs', hcs⟩ := HTP.out
              obtain ⟨hh3, hhh3⟩ : ∃ q, q = tickH 2 hh 0 := ⟨_, rfl⟩
              rw [← hhh3] at HS3 hs'
              have HS3 : Hid (Cs w3 b t m 2 hh3 ∧ Lz w3 L h mm v1 l1 ∧ (∀ x, Ls L h mm v1 x → s1 ≤ x) ∧ Kp (fun _ => False) w w3 ∧ hh3.length ≤ k + 1 ∧ s1 ≤ w3.heap.size) := HS3
              have HSP : Hid (hh3 = s' ++ pp ∧ s.count 0 ≤ s'.count 0) := ⟨hs', hcs⟩
              have H1 := cknow_cs HS3.out.1 1
              rw [now1] at H1
              have H1 : Hid (Calls _ _ _ w3 _) := H1
              obtain ⟨c1, hc1⟩ : ∃ c1 : Int, c1 = ((hh3.count 1 : Nat) : Int) := ⟨_, rfl⟩
              rw [← hc1] at H1
              have HC1 : Hid (c1 = ((hh3.count 1 : Nat) : Int)) := hc1
              clear HT k3 hC3 HTK hs' hcs hhh3 hc1 HTP HST
              go_wp2_with fail
              refine H1.out.mono ?_
              rintro e w4 ⟨rfl, k4⟩
              have HS4 : Hid (Cs w4 b t m 2 hh3 ∧ Lz w4 L h mm v1 l1 ∧ (∀ x, Ls L h mm v1 x → s1 ≤ x) ∧ Kp (fun _ => False) w w4 ∧ hh3.length ≤ k + 1 ∧ s1 ≤ w4.heap.size) := by
                obtain ⟨q1, q2, q3, q4, q5, q6⟩ := HS3.out
                exact ⟨q1.keep k4 (fun e => e) (fun e => e) (fun e => e), q2.keep0 k4, q3, q4.trans k4 (fun _ _ e => e), q5, Nat.le_trans q6 k4.size⟩
              have HDU : Hid (Calls _ _ _ w4 _) := ldue_ok HS4.out.2.1 c1 (by rcases HCA.out with ⟨_, e⟩ | ⟨_, e, _⟩ <;> rw [e] <;> simp)
              clear H1 k4 HS3
              go_wp2_with fail
              refine HDU.out.mono ?_
              rintro e w5 ⟨rv, ds, rfl, k5, p5, v5, l5, x5, q5, t5, t6, b5⟩
              have HST5 : Hid (Cs w5 b t m 2 hh3 ∧ Lz w5 L h mm v5 l5 ∧ (∀ x, Ls L h mm v5 x → s1 ≤ x) ∧ Kp (fun _ => False) w w5 ∧ hh3.length ≤ k + 1 ∧ s1 ≤ w5.heap.size) := by
                obtain ⟨q1, q2, q3, q4, q5', q6⟩ := HS4.out
                have hbt := HBT.out
                have hns : ∀ y, y < s1 → ¬ Hs h mm v1 y := fun y hy e => by have := q3 y (Or.inr e); omega
                exact ⟨q1.keep k5 (hns b hbt.1) (hns t hbt.2.1) (hns m hbt.2.2.1), x5, fun y hy => q3 y (lsub b5 hy), q4.trans k5 (fun y hy e => by have := q3 y (Or.inr e); omega), q5', Nat.le_trans q6 k5.size⟩
              have HC5 : Hid (Cs w5 b t m 2 hh3) := HST5.out.1
              obtain ⟨pv, capv, rfl, _⟩ := p5
              have hrl : (srtP (ds.map key)).length = ds.length := by rw [srtP_len, List.length_map]
              rw [hrl]
              have HQ : Hid ((ds ++ l5).Perm l1 ∧ (∀ e ∈ ds, e.t ≤ waits c1) ∧ ∀ e ∈ l5, waits c1 < e.t) := ⟨q5, t5, t6⟩
              clear HDU k5 x5 q5 t5 t6 b5 hrl HS4
              rcases HCA.out with ⟨rfl, hl1⟩ | ⟨rfl, hl1, h41⟩
              · have hq := HQ.out
                rw [hl1] at hq
                by_cases hdue : waits ((pp.count 1 : Nat) : Int) + 83 ≤ waits c1
                · obtain ⟨rfl, rfl⟩ : ds = [⟨1, 1, waits ((pp.count 1 : Nat) : Int) + 83⟩] ∧ l5 = [] := due_yes hq.1 hq.2.2 hdue
                  have h41 : 41 ≤ s'.count 0 := over1 (p := pp) (by rw [← HSP.out.1]; exact HC5.out.2) (by rw [← HSP.out.1, ← HC1.out]; exact hdue)
                  have HOV : Hid (decide (waits ((hh3.count 0 : Nat) : Int) < waits u) = false) := by
                    show decide _ = false
                    rw [HUU.out, HSP.out.1]
                    exact over2 h41
                  have HS5 : Hid (∃ (q0 : Value) (q1 : List Wt), Cs w5 b t m 2 hh3 ∧ Lz w5 L h mm q0 q1 ∧ (∀ x, Ls L h mm q0 x → s1 ≤ x) ∧ Kp (fun _ => False) w w5 ∧ hh3.length ≤ k + 1 ∧ s1 ≤ w5.heap.size ∧ hh3 = s' ++ pp ∧ q1 = [] ∧ 41 ≤ s'.count 0) := by
                    obtain ⟨q1, q2, q3, q4, q5, q6⟩ := HST5.out
                    exact ⟨v5, [], q1, q2, q3, q4, q5, q6, HSP.out.1, rfl, h41⟩
                  clear hq hdue hl1 HQ HST5 h41
                  simp only [List.length_cons, List.length_nil]
                  have H0 := cknow_cs HC5.out 0
                  rw [now0] at H0
                  have H0 : Hid (Calls _ _ _ w5 _) := H0
                  have HVD := fun w => valid_ok u ((hh3.count 0 : Nat) : Int) w
                  rw [show decide (waits ((hh3.count 0 : Nat) : Int) < waits u) = false from HOV.out] at HVD
                  have HVD : Hid (∀ w, Calls _ _ _ w _) := HVD
                  obtain ⟨c0, hc0⟩ : ∃ c0 : Int, c0 = ((hh3.count 0 : Nat) : Int) := ⟨_, rfl⟩
                  rw [← hc0] at H0 HVD
                  clear hc0
                  go_wp2_with fail
                  refine H0.out.mono ?_
                  rintro e w6 ⟨rfl, k6⟩
                  have HF : Hid (St w b t m L h mm s1 w6 (k + 1) u true true) := by
                    obtain ⟨q0, q1, q2, q3, q4, q5, q6, q7⟩ := HS5.out
                    exact ⟨hh3, q0, q1, q2.keep k6 (fun e => e) (fun e => e) (fun e => e), q3.keep0 k6, q4, q5.trans k6 (fun _ _ e => e), q6, Nat.le_trans q7.1 k6.size, Or.inr ⟨rfl, s', pp, q7.2.1, HUU.out, Or.inr ⟨rfl, q7.2.2.1, q7.2.2.2⟩⟩⟩
                  clear H0 k6
                  go_wp2_with fail
                  refine (HVD.out _).mono ?_
                  rintro e w6' ⟨rfl, hw⟩
                  obtain rfl := hw.symm
                  clear hw HVD
                  go_wp2
                  go_roundg (Ln - (k + 1))
                  case rel => exact ⟨k + 1, u, true, true, by have := HKK.out; omega, rfl, rfl, rfl, rfl, by first | rfl | (simp; done) | go_num, HF⟩
                  case measure => have := HKK.out; omega
                · obtain ⟨rfl, rfl⟩ : ds = [] ∧ l5 = [⟨1, 1, waits ((pp.count 1 : Nat) : Int) + 83⟩] := due_no hq.1 hq.2.1 (by show waits c1 < waits ((pp.count 1 : Nat) : Int) + 83; omega)
                  have HF : Hid (St w b t m L h mm s1 w5 (k + 1) u false true) := by
                    obtain ⟨q1, q2, q3, q4, q5, q6⟩ := HST5.out
                    exact ⟨hh3, v5, _, q1, q2, q3, q4, q5, q6, Or.inr ⟨rfl, s', pp, HSP.out.1, HUU.out, Or.inl ⟨rfl, rfl⟩⟩⟩
                  clear hq hdue hl1 HQ HST5
                  simp only [List.length_nil]
                  go_wp2
                  go_roundg (Ln - (k + 1))
                  case rel => exact ⟨k + 1, u, false, true, by have := HKK.out; omega, rfl, rfl, rfl, rfl, by first | rfl | (simp; done) | go_num, HF⟩
                  case measure => have := HKK.out; omega
              · have hq := HQ.out
                rw [hl1] at hq
                obtain ⟨rfl, rfl⟩ : ds = [] ∧ l5 = [] := due_nil hq.1
                have h42 : 41 ≤ s'.count 0 := by have := HSP.out.2; omega
                have HOV : Hid (decide (waits ((hh3.count 0 : Nat) : Int) < waits u) = false) := by
                  show decide _ = false
                  rw [HUU.out, HSP.out.1]
                  exact over2 h42
                have HS5 : Hid (∃ (q0 : Value) (q1 : List Wt), Cs w5 b t m 2 hh3 ∧ Lz w5 L h mm q0 q1 ∧ (∀ x, Ls L h mm q0 x → s1 ≤ x) ∧ Kp (fun _ => False) w w5 ∧ hh3.length ≤ k + 1 ∧ s1 ≤ w5.heap.size ∧ hh3 = s' ++ pp ∧ q1 = [] ∧ 41 ≤ s'.count 0) := by
                  obtain ⟨q1, q2, q3, q4, q5, q6⟩ := HST5.out
                  exact ⟨v5, [], q1, q2, q3, q4, q5, q6, HSP.out.1, rfl, h42⟩
                clear hq hl1 HQ HST5 h41 h42
                simp only [List.length_nil]
                have H0 := cknow_cs HC5.out 0
                rw [now0] at H0
                have H0 : Hid (Calls _ _ _ w5 _) := H0
                have HVD := fun w => valid_ok u ((hh3.count 0 : Nat) : Int) w
                rw [show decide (waits ((hh3.count 0 : Nat) : Int) < waits u) = false from HOV.out] at HVD
                have HVD : Hid (∀ w, Calls _ _ _ w _) := HVD
                obtain ⟨c0, hc0⟩ : ∃ c0 : Int, c0 = ((hh3.count 0 : Nat) : Int) := ⟨_, rfl⟩
                rw [← hc0] at H0 HVD
                clear hc0
                go_wp2_with fail
                refine H0.out.mono ?_
                rintro e w6 ⟨rfl, k6⟩
                have HF : Hid (St w b t m L h mm s1 w6 (k + 1) u true true) := by
                  obtain ⟨q0, q1, q2, q3, q4, q5, q6, q7⟩ := HS5.out
                  exact ⟨hh3, q0, q1, q2.keep k6 (fun e => e) (fun e => e) (fun e => e), q3.keep0 k6, q4, q5.trans k6 (fun _ _ e => e), q6, Nat.le_trans q7.1 k6.size, Or.inr ⟨rfl, s', pp, q7.2.1, HUU.out, Or.inr ⟨rfl, q7.2.2.1, q7.2.2.2⟩⟩⟩
                clear H0 k6
                go_wp2_with fail
                refine (HVD.out _).mono ?_
                rintro e w6' ⟨rfl, hw⟩
                obtain rfl := hw.symm
                clear hw HVD
                go_wp2
                go_roundg (Ln - (k + 1))
                case rel => exact ⟨k + 1, u, true, true, by have := HKK.out; omega, rfl, rfl, rfl, rfl, by first | rfl | (simp; done) | go_num, HF⟩
                case measure => have := HKK.out; omega
            · have hd3 : decide (n = 2) = false := decide_eq_false hd2
              go_wp2_with fail
              refine HT.out.mono ?_
              rintro e w3 ⟨rfl, k3, hC3⟩
              have HS3 := HTK.out w3 k3 hC3
              obtain ⟨s', hs', hcs⟩ := HTP.out
              obtain ⟨hh3, hhh3⟩ : ∃ q, q = tickH 2 hh x := ⟨_, rfl⟩
              rw [← hhh3] at HS3 hs'
              have HS3 : Hid (Cs w3 b t m 2 hh3 ∧ Lz w3 L h mm v1 l1 ∧ (∀ x, Ls L h mm v1 x → s1 ≤ x) ∧ Kp (fun _ => False) w w3 ∧ hh3.length ≤ k + 1 ∧ s1 ≤ w3.heap.size) := HS3
              have HSP : Hid (hh3 = s' ++ pp ∧ s.count 0 ≤ s'.count 0) := ⟨hs', hcs⟩
              have H1 := cknow_cs HS3.out.1 1
              rw [now1] at H1
              have H1 : Hid (Calls _ _ _ w3 _) := H1
              obtain ⟨c1, hc1⟩ : ∃ c1 : Int, c1 = ((hh3.count 1 : Nat) : Int) := ⟨_, rfl⟩
              rw [← hc1] at H1
              have HC1 : Hid (c1 = ((hh3.count 1 : Nat) : Int)) := hc1
              clear HT k3 hC3 HTK hs' hcs hhh3 hc1 HTP HST
              go_wp2_with fail
              refine H1.out.mono ?_
              rintro e w4 ⟨rfl, k4⟩
              have HS4 : Hid (Cs w4 b t m 2 hh3 ∧ Lz w4 L h mm v1 l1 ∧ (∀ x, Ls L h mm v1 x → s1 ≤ x) ∧ Kp (fun _ => False) w w4 ∧ hh3.length ≤ k + 1 ∧ s1 ≤ w4.heap.size) := by
                obtain ⟨q1, q2, q3, q4, q5, q6⟩ := HS3.out
                exact ⟨q1.keep k4 (fun e => e) (fun e => e) (fun e => e), q2.keep0 k4, q3, q4.trans k4 (fun _ _ e => e), q5, Nat.le_trans q6 k4.size⟩
              have HDU : Hid (Calls _ _ _ w4 _) := ldue_ok HS4.out.2.1 c1 (by rcases HCA.out with ⟨_, e⟩ | ⟨_, e, _⟩ <;> rw [e] <;> simp)
              clear H1 k4 HS3
              go_wp2_with fail
              refine HDU.out.mono ?_
              rintro e w5 ⟨rv, ds, rfl, k5, p5, v5, l5, x5, q5, t5, t6, b5⟩
              have HST5 : Hid (Cs w5 b t m 2 hh3 ∧ Lz w5 L h mm v5 l5 ∧ (∀ x, Ls L h mm v5 x → s1 ≤ x) ∧ Kp (fun _ => False) w w5 ∧ hh3.length ≤ k + 1 ∧ s1 ≤ w5.heap.size) := by
                obtain ⟨q1, q2, q3, q4, q5', q6⟩ := HS4.out
                have hbt := HBT.out
                have hns : ∀ y, y < s1 → ¬ Hs h mm v1 y := fun y hy e => by have := q3 y (Or.inr e); omega
                exact ⟨q1.keep k5 (hns b hbt.1) (hns t hbt.2.1) (hns m hbt.2.2.1), x5, fun y hy => q3 y (lsub b5 hy), q4.trans k5 (fun y hy e => by have := q3 y (Or.inr e); omega), q5', Nat.le_trans q6 k5.size⟩
              have HC5 : Hid (Cs w5 b t m 2 hh3) := HST5.out.1
              obtain ⟨pv, capv, rfl, _⟩ := p5
              have hrl : (srtP (ds.map key)).length = ds.length := by rw [srtP_len, List.length_map]
              rw [hrl]
              have HQ : Hid ((ds ++ l5).Perm l1 ∧ (∀ e ∈ ds, e.t ≤ waits c1) ∧ ∀ e ∈ l5, waits c1 < e.t) := ⟨q5, t5, t6⟩
              clear HDU k5 x5 q5 t5 t6 b5 hrl HS4
              rcases HCA.out with ⟨rfl, hl1⟩ | ⟨rfl, hl1, h41⟩
              · have hq := HQ.out
                rw [hl1] at hq
                by_cases hdue : waits ((pp.count 1 : Nat) : Int) + 83 ≤ waits c1
                · obtain ⟨rfl, rfl⟩ : ds = [⟨1, 1, waits ((pp.count 1 : Nat) : Int) + 83⟩] ∧ l5 = [] := due_yes hq.1 hq.2.2 hdue
                  have h41 : 41 ≤ s'.count 0 := over1 (p := pp) (by rw [← HSP.out.1]; exact HC5.out.2) (by rw [← HSP.out.1, ← HC1.out]; exact hdue)
                  have HOV : Hid (decide (waits ((hh3.count 0 : Nat) : Int) < waits u) = false) := by
                    show decide _ = false
                    rw [HUU.out, HSP.out.1]
                    exact over2 h41
                  have HS5 : Hid (∃ (q0 : Value) (q1 : List Wt), Cs w5 b t m 2 hh3 ∧ Lz w5 L h mm q0 q1 ∧ (∀ x, Ls L h mm q0 x → s1 ≤ x) ∧ Kp (fun _ => False) w w5 ∧ hh3.length ≤ k + 1 ∧ s1 ≤ w5.heap.size ∧ hh3 = s' ++ pp ∧ q1 = [] ∧ 41 ≤ s'.count 0) := by
                    obtain ⟨q1, q2, q3, q4, q5, q6⟩ := HST5.out
                    exact ⟨v5, [], q1, q2, q3, q4, q5, q6, HSP.out.1, rfl, h41⟩
                  clear hq hdue hl1 HQ HST5 h41
                  simp only [List.length_cons, List.length_nil]
                  have H0 := cknow_cs HC5.out 0
                  rw [now0] at H0
                  have H0 : Hid (Calls _ _ _ w5 _) := H0
                  have HVD := fun w => valid_ok u ((hh3.count 0 : Nat) : Int) w
                  rw [show decide (waits ((hh3.count 0 : Nat) : Int) < waits u) = false from HOV.out] at HVD
                  have HVD : Hid (∀ w, Calls _ _ _ w _) := HVD
                  obtain ⟨c0, hc0⟩ : ∃ c0 : Int, c0 = ((hh3.count 0 : Nat) : Int) := ⟨_, rfl⟩
                  rw [← hc0] at H0 HVD
                  clear hc0
                  go_wp2_with fail
                  refine H0.out.mono ?_
                  rintro e w6 ⟨rfl, k6⟩
                  have HF : Hid (St w b t m L h mm s1 w6 (k + 1) u true true) := by
                    obtain ⟨q0, q1, q2, q3, q4, q5, q6, q7⟩ := HS5.out
                    exact ⟨hh3, q0, q1, q2.keep k6 (fun e => e) (fun e => e) (fun e => e), q3.keep0 k6, q4, q5.trans k6 (fun _ _ e => e), q6, Nat.le_trans q7.1 k6.size, Or.inr ⟨rfl, s', pp, q7.2.1, HUU.out, Or.inr ⟨rfl, q7.2.2.1, q7.2.2.2⟩⟩⟩
                  clear H0 k6
                  go_wp2_with fail
                  refine (HVD.out _).mono ?_
                  rintro e w6' ⟨rfl, hw⟩
                  obtain rfl := hw.symm
                  clear hw HVD
                  go_wp2
                  go_roundg (Ln - (k + 1))
                  case rel => exact ⟨k + 1, u, true, true, by have := HKK.out; omega, rfl, rfl, rfl, rfl, by first | rfl | (simp; done) | go_num, HF⟩
                  case measure => have := HKK.out; omega
                · obtain ⟨rfl, rfl⟩ : ds = [] ∧ l5 = [⟨1, 1, waits ((pp.count 1 : Nat) : Int) + 83⟩] := due_no hq.1 hq.2.1 (by show waits c1 < waits ((pp.count 1 : Nat) : Int) + 83; omega)
                  have HF : Hid (St w b t m L h mm s1 w5 (k + 1) u false true) := by
                    obtain ⟨q1, q2, q3, q4, q5, q6⟩ := HST5.out
                    exact ⟨hh3, v5, _, q1, q2, q3, q4, q5, q6, Or.inr ⟨rfl, s', pp, HSP.out.1, HUU.out, Or.inl ⟨rfl, rfl⟩⟩⟩
                  clear hq hdue hl1 HQ HST5
                  simp only [List.length_nil]
                  go_wp2
                  go_roundg (Ln - (k + 1))
                  case rel => exact ⟨k + 1, u, false, true, by have := HKK.out; omega, rfl, rfl, rfl, rfl, by first | rfl | (simp; done) | go_num, HF⟩
                  case measure => have := HKK.out; omega
              · have hq := HQ.out
                rw [hl1] at hq
                obtain ⟨rfl, rfl⟩ : ds = [] ∧ l5 = [] := due_nil hq.1
                have h42 : 41 ≤ s'.count 0 := by have := HSP.out.2; omega
                have HOV : Hid (decide (waits ((hh3.count 0 : Nat) : Int) < waits u) = false) := by
                  show decide _ = false
                  rw [HUU.out, HSP.out.1]
                  exact over2 h42
                have HS5 : Hid (∃ (q0 : Value) (q1 : List Wt), Cs w5 b t m 2 hh3 ∧ Lz w5 L h mm q0 q1 ∧ (∀ x, Ls L h mm q0 x → s1 ≤ x) ∧ Kp (fun _ => False) w w5 ∧ hh3.length ≤ k + 1 ∧ s1 ≤ w5.heap.size ∧ hh3 = s' ++ pp ∧ q1 = [] ∧ 41 ≤ s'.count 0) := by
                  obtain ⟨q1, q2, q3, q4, q5, q6⟩ := HST5.out
                  exact ⟨v5, [], q1, q2, q3, q4, q5, q6, HSP.out.1, rfl, h42⟩
                clear hq hl1 HQ HST5 h41 h42
                simp only [List.length_nil]
                have H0 := cknow_cs HC5.out 0
                rw [now0] at H0
                have H0 : Hid (Calls _ _ _ w5 _) := H0
                have HVD := fun w => valid_ok u ((hh3.count 0 : Nat) : Int) w
                rw [show decide (waits ((hh3.count 0 : Nat) : Int) < waits u) = false from HOV.out] at HVD
                have HVD : Hid (∀ w, Calls _ _ _ w _) := HVD
                obtain ⟨c0, hc0⟩ : ∃ c0 : Int, c0 = ((hh3.count 0 : Nat) : Int) := ⟨_, rfl⟩
                rw [← hc0] at H0 HVD
                clear hc0
                go_wp2_with fail
                refine H0.out.mono ?_
                rintro e w6 ⟨rfl, k6⟩
                have HF : Hid (St w b t m L h mm s1 w6 (k + 1) u true true) := by
                  obtain ⟨q0, q1, q2, q3, q4, q5, q6, q7⟩ := HS5.out
                  exact ⟨hh3, q0, q1, q2.keep k6 (fun e => e) (fun e => e) (fun e => e), q3.keep0 k6, q4, q5.trans k6 (fun _ _ e => e), q6, Nat.le_trans q7.1 k6.size, Or.inr ⟨rfl, s', pp, q7.2.1, HUU.out, Or.inr ⟨rfl, q7.2.2.1, q7.2.2.2⟩⟩⟩
                clear H0 k6
                go_wp2_with fail
                refine (HVD.out _).mono ?_
                rintro e w6' ⟨rfl, hw⟩
                obtain rfl := hw.symm
                clear hw HVD
                go_wp2
                go_roundg (Ln - (k + 1))
                case rel => exact ⟨k + 1, u, true, true, by have := HKK.out; omega, rfl, rfl, rfl, rfl, by first | rfl | (simp; done) | go_num, HF⟩
                case measure => have := HKK.out; omega
    · go_wp2_with fail
      refine (HA.out _).mono ?_
      rintro e w3 ⟨rfl, k3⟩
      have HK3 : Hid (Kp (fun _ => False) w w3) := by
        obtain ⟨_, _, _, _, _, _, q4, _⟩ := HS.out
        exact q4.trans k3 (fun _ _ e => e)
      clear k3
      go_wp2_with fail
      refine (HB.out _).mono ?_
      rintro e w4 ⟨rfl, k4⟩
      have HK4 : Hid (Kp (fun _ => False) w w4) := HK3.out.trans k4 (fun _ _ e => e)
      clear k4
      go_wp2
      go_ret
      exact ⟨rfl, HK4.out⟩
end Go.Proofs.Ytjjghgbegecbeaa
