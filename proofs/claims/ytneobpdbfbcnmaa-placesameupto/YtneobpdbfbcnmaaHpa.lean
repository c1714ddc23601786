/- The walk of the law PlaceApart. -/
import Derived.Test.YtneobpdbfbcnmaaHo
import Derived.Test.YtneobpdbfbcnmaaDi
namespace Go.Proofs.Ytneobpdbfbcnmaa
set_option linter.unusedVariables false
open Go.RowKit Go.Deep

def md (k n : Int) : Nat := ((n % 18446744073709551616) % k).toNat
theorem md_lt (k n : Int) (hk : 0 < k) : (md k n : Int) < k := by
  unfold md
  have h1 := Int.emod_nonneg (n % 18446744073709551616) (Int.ne_of_gt hk)
  have h2 := Int.emod_lt_of_pos (n % 18446744073709551616) hk
  omega
theorem md_eq (k n : Int) (hk : 0 < k) (hk2 : k ≤ 4611686018427387904) : wrap64 ((IntKind.u64.wrap n).tmod k) = (md k n : Int) := by
  have h : IntKind.u64.wrap n = n % 18446744073709551616 := by simp [IntKind.wrap, IntKind.bits, IntKind.signed]
  rw [h]
  have h0 : 0 ≤ n % 18446744073709551616 := Int.emod_nonneg _ (by omega)
  rw [Int.tmod_eq_emod_of_nonneg h0]
  have h1 := Int.emod_nonneg (n % 18446744073709551616) (Int.ne_of_gt hk)
  have h2 := Int.emod_lt_of_pos (n % 18446744073709551616) hk
  unfold md wrap64
  omega
theorem ints_fl {w : World} {p : Option Addr} {zs : List Int} (h : Iz w p zs) : Fl w (· < w.heap.size) p (zs.map encI) := fun j u hu => by
  have hj : j < zs.length := by have := (List.getElem?_eq_some_iff.1 hu).1; simpa using this
  obtain ⟨b, o, e, hc⟩ := h j hj
  rw [List.getElem?_map, List.getElem?_eq_getElem hj] at hu
  injection hu with hu
  subst hu
  rw [List.getD_eq_getElem?_getD, List.getElem?_eq_getElem hj] at hc
  exact ⟨b, o, e, World.block_lt_of_cell? w _ hc, hc⟩
theorem setOf_get (zs : List Int) (i : Nat) (h : i < 16) : (setOf zs).getD i false = decide ((i : Int) ∈ zs) := by
  unfold setOf
  rw [List.getD_eq_getElem?_getD, List.getElem?_map, List.getElem?_range h]; rfl
theorem rs_mem {zs : List Int} {z : Int} (h : z ∈ rs zs) : z ∈ zs ∧ 0 ≤ z ∧ z < 16 := by
  unfold rs rise at h
  obtain ⟨i, hi, rfl⟩ := List.mem_map.1 h
  rw [List.mem_filter, List.mem_range] at hi
  have h2 := hi.2
  rw [setOf_get zs i hi.1] at h2
  exact ⟨of_decide_eq_true h2, by omega, by omega⟩
theorem rs_nodup (zs : List Int) : (rs zs).Nodup := by
  unfold rs rise List.Nodup
  rw [List.pairwise_map]
  exact (List.Pairwise.filter _ (List.nodup_range)).imp (fun h e => h (by omega))
theorem trn_mem {zs : List Int} {s z : Int} (h : z ∈ trn zs s) : z ∈ zs ∧ 0 ≤ z ∧ z < 16 := by
  unfold trn at h
  obtain ⟨i, hi, rfl⟩ := List.mem_map.1 h
  rw [List.mem_range] at hi
  have hq : (i + beg s (rs zs).length) % (rs zs).length < (rs zs).length := Nat.mod_lt _ (by omega)
  rw [List.getD_eq_getElem?_getD, List.getElem?_eq_getElem hq]
  exact rs_mem (List.getElem_mem hq)
theorem mod_inj {i j b c : Nat} (hi : i < c) (hj : j < c) (hb : b < c) (h : (i + b) % c = (j + b) % c) : i = j := by
  have e : ∀ k, k < c → (k + b) % c = if k + b < c then k + b else k + b - c := fun k hk => by
    by_cases h1 : k + b < c
    · rw [if_pos h1, Nat.mod_eq_of_lt h1]
    · rw [if_neg h1, Nat.mod_eq_sub_mod (by omega), Nat.mod_eq_of_lt (by omega)]
  rw [e i hi, e j hj] at h
  by_cases h1 : i + b < c <;> by_cases h2 : j + b < c
  · rw [if_pos h1, if_pos h2] at h; omega
  · rw [if_pos h1, if_neg h2] at h; omega
  · rw [if_neg h1, if_pos h2] at h; omega
  · rw [if_neg h1, if_neg h2] at h; omega
theorem trn_fresh (zs : List Int) (s : Int) (i : Nat) (h : i < (trn zs s).length) : (trn zs s)[i] ∉ (trn zs s).take i := fun hm => by
  obtain ⟨j, hj, e⟩ := List.getElem_of_mem hm
  rw [List.length_take] at hj
  rw [List.getElem_take] at e
  have hc := trn_len zs s
  have hb := beg_lt s (c := (rs zs).length) (by omega)
  have gt : ∀ k (hk : k < (trn zs s).length), (trn zs s)[k] = (rs zs).getD ((k + beg s (rs zs).length) % (rs zs).length) 0 := fun k hk => by
    have h1 : (trn zs s)[k]? = some ((rs zs).getD ((k + beg s (rs zs).length) % (rs zs).length) 0) := by
      unfold trn
      rw [List.getElem?_map, List.getElem?_range (by rw [trn_len] at hk; exact hk)]; rfl
    rw [List.getElem?_eq_getElem hk] at h1
    exact Option.some.inj h1
  rw [gt j (by omega), gt i h] at e
  have q1 : (j + beg s (rs zs).length) % (rs zs).length < (rs zs).length := Nat.mod_lt _ (by omega)
  have q2 : (i + beg s (rs zs).length) % (rs zs).length < (rs zs).length := Nat.mod_lt _ (by omega)
  rw [List.getD_eq_getElem?_getD, List.getD_eq_getElem?_getD, List.getElem?_eq_getElem q1, List.getElem?_eq_getElem q2] at e
  have := mod_inj (by omega) (by omega) hb ((List.getElem_inj (rs_nodup zs)).1 e)
  omega
theorem fst_facts {zs us : List Int} {s z : Int} (h : fstS zs s (setOf us) = some z) : z ∈ zs ∧ z ∉ us := by
  unfold fstS at h
  have h1 := trn_mem (List.mem_of_find?_eq_some h)
  have h2 := List.find?_some h
  refine ⟨h1.1, fun hu => ?_⟩
  unfold lck at h2
  rw [setOf_get us z.toNat (by omega), show ((z.toNat : Nat) : Int) = z by omega, decide_eq_true hu] at h2
  cases h2

set_option maxRecDepth 100000 in
set_option maxHeartbeats 16000000 in
theorem placeApart_walk (v0 : Value) (L0 : Nat) (v1 : Value) (L1 : Nat) (seed n0 : Int) (w : World) (h0 : Ints w v0 L0) (h1 : Ints w v1 L1) :
    Calls Try.prog 4 #[v0, v1, .int .i64 seed, .int .i64 n0] w fun e w' => e = .returned (.bool true) ∧ Kp (fun _ => False) w w' := by
  obtain ⟨p, c, zs, rfl, hz, _, hi, hb⟩ := h0
  obtain ⟨p2, c2, us, rfl, hu, _, hi2, hb2⟩ := h1
  have HZ : Hid (Fl w (· < w.heap.size) p (zs.map encI) ∧ L0 = zs.length ∧ zs.length * 8 ≤ 140737488355328) := ⟨ints_fl hi, hz.symm, by omega⟩
  have HU : Hid (Fl w (· < w.heap.size) p2 (us.map encI) ∧ L1 = us.length ∧ us.length * 8 ≤ 140737488355328) := ⟨ints_fl hi2, hu.symm, by omega⟩
  have hw1 := md_eq 16 n0 (by omega) (by omega)
  have hml := md_lt 16 n0 (by omega)
  obtain ⟨m, hm⟩ : ∃ m : Nat, m = md 16 n0 := ⟨_, rfl⟩
  rw [← hm] at hw1 hml
  obtain ⟨n, hn⟩ : ∃ n : Nat, n = 1 + m := ⟨_, rfl⟩
  have hw2 : wrap64 (1 + (m : Int)) = (n : Int) := by unfold wrap64; omega
  have HN : Hid (1 ≤ n ∧ n ≤ 16) := by
    clear hw1 hw2 HZ HU hi hi2
    exact ⟨by omega, by omega⟩
  have HWs : Hid (wrap64 ((IntKind.u64.wrap n0).tmod 16) = (m : Int) ∧ wrap64 (1 + (m : Int)) = (n : Int)) := ⟨hw1, hw2⟩
  clear hw1 hw2
  have HCt : Hid (∀ (u : World) (z : Int), Kp (fun _ => False) w u → Calls Try.prog 14 #[.slice p L0 c, .int .i64 z] u fun e w' => e = .returned (.bool (decide (z ∈ zs))) ∧ w' = u) := fun u z ku => by
    have := contains_ok (· < w.heap.size) p c z zs u (HZ.out.1.keep ku (fun _ _ => id)) HZ.out.2.2
    rw [← HZ.out.2.1] at this; exact this
  have HCu : Hid (∀ (u : World) (z : Int), Kp (fun _ => False) w u → Calls Try.prog 14 #[.slice p2 L1 c2, .int .i64 z] u fun e w' => e = .returned (.bool (decide (z ∈ us))) ∧ w' = u) := fun u z ku => by
    have := contains_ok (· < w.heap.size) p2 c2 z us u (HU.out.1.keep ku (fun _ _ => id)) HU.out.2.2
    rw [← HU.out.2.1] at this; exact this
  obtain ⟨f, hf⟩ : ∃ f, f = fstS zs seed (setOf us) := ⟨_, rfl⟩
  have HSp : Hid (∀ (u : World), Kp (fun _ => False) w u → Calls Try.prog 10 #[.slice p L0 c, .slice p2 L1 c2, .int .i64 seed] u fun e w' => e = .returned (.tuple #[.int .i64 (f.getD 0), .int .i64 (if f.isSome then 0 else 140)]) ∧ Kp (fun _ => False) u w') := fun u ku => by
    have := spare_ok (· < w.heap.size) (· < w.heap.size) p p2 c c2 zs us seed u (HZ.out.1.keep ku (fun _ _ => id)) (HU.out.1.keep ku (fun _ _ => id)) HZ.out.2.2 HU.out.2.2
    rw [← HZ.out.2.1, ← HU.out.2.1, ← hf] at this; exact this
  have HFf : Hid (∀ z, f = some z → z ∈ zs ∧ z ∉ us) := fun z hz => fst_facts (by rw [← hf]; exact hz)
  have HAw : Hid (∀ u, Calls _ _ _ u _) := awake_ok
  clear hz hi hb hu hi2 hb2 hn hf hm hml
  by_cases hfew : (trn zs seed).length < n
  · have HE : Hid (Calls _ _ _ w _) := choose_few _ p c zs seed n (by have := HN.out; omega) (by omega) w HZ.out.1 HZ.out.2.2
    rw [← HZ.out.2.1] at HE
    obtain ⟨hw1, hw2⟩ := HWs.out
    go_enter Try.func4, Try.ntmps4
    go_wp2_with fail
    refine HE.out.mono ?_
    clear hw1 hw2
    rintro e w1 ⟨rfl, k1⟩
    have HK1 : Hid (Kp (fun _ => False) w w1) := k1
    clear HE k1
    go_wp2
    go_loopg [29] 1 (fun gk iv wr => gk = 1 ∧ iv = .int .i64 0 ∧ wr = w1)
    case atStart => exact ⟨rfl, rfl, rfl⟩
    case round =>
      obtain ⟨rfl, rfl, rfl⟩ := hrel
      have HE3 : Hid (Calls _ _ _ wr _) := HSp.out wr HK1.out
      cases f with
      | none =>
        go_wp2_with fail
        refine HE3.out.mono ?_
        rintro e x3 ⟨rfl, k3⟩
        have K3 : Hid (Kp (fun _ => False) w x3) := HK1.out.trans k3 (fun _ _ e => e)
        clear HE3 k3
        go_wp2_with fail
        refine (HAw.out x3).mono ?_
        rintro e x4 ⟨rfl, k4⟩
        go_wp2
        go_ret
        exact ⟨rfl, K3.out.trans k4 (fun _ _ e => e)⟩
      | some zf =>
        have hzf := HFf.out zf rfl
        go_wp2_with fail
        refine HE3.out.mono ?_
        rintro e x3 ⟨rfl, k3⟩
        have K3 : Hid (Kp (fun _ => False) w x3) := HK1.out.trans k3 (fun _ _ e => e)
        have HE4 : Hid (Calls _ _ _ x3 _) := HCt.out x3 zf K3.out
        have HE5 : Hid (Calls _ _ _ x3 _) := HCu.out x3 zf K3.out
        rw [decide_eq_true hzf.1] at HE4
        rw [decide_eq_false hzf.2] at HE5
        clear HE3 k3 hzf
        go_wp2_with fail
        refine HE4.out.mono ?_
        rintro e x4 ⟨rfl, hx4⟩
        obtain rfl := hx4
        go_wp2_with fail
        refine HE5.out.mono ?_
        rintro e x5 ⟨rfl, hx5⟩
        obtain rfl := hx5
        go_wp2_with fail
        refine (HAw.out x5).mono ?_
        rintro e x6 ⟨rfl, k6⟩
        go_wp2
        go_ret
        exact ⟨rfl, K3.out.trans k6 (fun _ _ e => e)⟩
  · have HE : Hid (Calls _ _ _ w _) := choose_ok _ p c zs seed n HN.out (by omega) w HZ.out.1 HZ.out.2.2
    rw [← HZ.out.2.1] at HE
    obtain ⟨tk, htk⟩ : ∃ tk, tk = (trn zs seed).take n := ⟨_, rfl⟩
    have HTk : Hid (tk.length = n ∧ (∀ z ∈ tk, z ∈ zs ∧ 0 ≤ z ∧ z < 16) ∧ ∀ i (h : i < tk.length), tk[i] ∉ tk.take i) := ⟨by rw [htk, List.length_take]; omega, fun z hz => by rw [htk] at hz; exact trn_mem (List.mem_of_mem_take hz), fun i h hm => by
      subst htk
      rw [List.length_take] at h
      rw [List.getElem_take, List.take_take, Nat.min_eq_left (by omega)] at hm
      exact trn_fresh zs seed i (by omega) hm⟩
    rw [← htk] at HE
    clear htk hfew
    obtain ⟨hw1, hw2⟩ := HWs.out
    go_enter Try.func4, Try.ntmps4
    go_wp2_with fail
    refine HE.out.mono ?_
    clear hw1 hw2
    rintro e w1 ⟨g, rfl, k1, hg, hlv⟩
    have HK1 : Hid (Kp (fun _ => False) w w1) := k1
    have HLv : Hid (Lv w1 g (tk.map encI)) := hlv
    have HCl : Hid (∀ (i : Nat) (z : Int), i ≤ n → Calls Try.prog 14 #[.slice (some ⟨g, 0, none⟩) i n, .int .i64 z] w1 fun e w' => e = .returned (.bool (decide (z ∈ tk.take i))) ∧ w' = w1) := fun i z hi => by
      have := contains_ok (fun _ => True) (some ⟨g, 0, none⟩) n z (tk.take i) w1 (fun j u hu => ⟨g, 0, rfl, trivial, by rw [Nat.zero_add]; exact HLv.out.cell (by rw [List.map_take, List.getElem?_take] at hu; split at hu; exact hu; cases hu)⟩) (by show _ ≤ _; rw [List.length_take]; have := HN.out; omega)
      rw [List.length_take, HTk.out.1, Nat.min_eq_left hi] at this; exact this
    clear HE k1 hg hlv
    go_wp2
    go_loopg [29] n (fun gk iv wr => ∃ i : Nat, i ≤ n ∧ gk = n - i ∧ iv = .int .i64 i ∧ wr = w1)
    case atStart => exact ⟨0, by omega, rfl, rfl, rfl⟩
    case round =>
      obtain ⟨i, hi, rfl, rfl, hwr⟩ := hrel
      subst hwr
      by_cases hli : (i : Int) < (n : Int)
      · have hil : i < tk.length := by have := HTk.out.1; omega
        obtain ⟨z, hz⟩ : ∃ z, z = tk[i] := ⟨_, rfl⟩
        have hc1 : wr.cell? ⟨g, i, none⟩ = some (.int .i64 z) := by rw [hz]; exact HLv.out.cell (by rw [List.getElem?_map, List.getElem?_eq_getElem hil]; rfl)
        have hm := HTk.out.2.1 z (by rw [hz]; exact List.getElem_mem hil)
        have HE1 : Hid (Calls _ _ _ wr _) := HCt.out wr z HK1.out
        rw [decide_eq_true hm.1] at HE1
        have HE2 : Hid (Calls _ _ _ wr _) := HCl.out i z hi
        rw [decide_eq_false (by rw [hz]; exact HTk.out.2.2 i hil)] at HE2
        have hz0 : ¬ z < 0 := by omega
        have hz1 : ¬ z > 15 := by omega
        have HW : Hid (wrap64 ((i : Int) + 1) = ((i + 1 : Nat) : Int)) := by show _ = _; have := HN.out; unfold wrap64; omega
        have hin : i ≤ n := hi
        clear hm hz hil
        go_wp2_with fail
        refine HE1.out.mono ?_
        rintro e w2 ⟨rfl, hw2⟩
        obtain rfl := hw2
        go_wp2_with fail
        refine HE2.out.mono ?_
        rintro e w3 ⟨rfl, hw3⟩
        obtain rfl := hw3
        go_wp2
        go_roundg (n - (i + 1))
        case rel => exact ⟨i + 1, by omega, rfl, by rw [HW.out], rfl⟩
        case measure => omega
      · clear HCl
        have HE3 : Hid (Calls _ _ _ wr _) := HSp.out wr HK1.out
        cases f with
        | none =>
          go_wp2_with fail
          refine HE3.out.mono ?_
          rintro e x3 ⟨rfl, k3⟩
          have K3 : Hid (Kp (fun _ => False) w x3) := HK1.out.trans k3 (fun _ _ e => e)
          clear HE3 k3
          go_wp2_with fail
          refine (HAw.out x3).mono ?_
          rintro e x4 ⟨rfl, k4⟩
          go_wp2
          go_ret
          exact ⟨rfl, K3.out.trans k4 (fun _ _ e => e)⟩
        | some zf =>
          have hzf := HFf.out zf rfl
          go_wp2_with fail
          refine HE3.out.mono ?_
          rintro e x3 ⟨rfl, k3⟩
          have K3 : Hid (Kp (fun _ => False) w x3) := HK1.out.trans k3 (fun _ _ e => e)
          have HE4 : Hid (Calls _ _ _ x3 _) := HCt.out x3 zf K3.out
          have HE5 : Hid (Calls _ _ _ x3 _) := HCu.out x3 zf K3.out
          rw [decide_eq_true hzf.1] at HE4
          rw [decide_eq_false hzf.2] at HE5
          clear HE3 k3 hzf
          go_wp2_with fail
          refine HE4.out.mono ?_
          rintro e x4 ⟨rfl, hx4⟩
          obtain rfl := hx4
          go_wp2_with fail
          refine HE5.out.mono ?_
          rintro e x5 ⟨rfl, hx5⟩
          obtain rfl := hx5
          go_wp2_with fail
          refine (HAw.out x5).mono ?_
          rintro e x6 ⟨rfl, k6⟩
          go_wp2
          go_ret
          exact ⟨rfl, K3.out.trans k6 (fun _ _ e => e)⟩
end Go.Proofs.Ytneobpdbfbcnmaa
