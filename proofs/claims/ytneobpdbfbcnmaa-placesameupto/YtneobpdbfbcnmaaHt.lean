/- Both Choose, both Spare; the walk of the law PlaceTells. -/
import Derived.Test.YtneobpdbfbcnmaaHs
import Derived.Test.YtneobpdbfbcnmaaHpa
namespace Go.Proofs.Ytneobpdbfbcnmaa
set_option linter.unusedVariables false
set_option linter.unusedSimpArgs false
open Go.RowKit Go.Deep

/-- what is chosen, and the error -/
def cho (zs : List Int) (seed n : Int) : List Int × Int := if 1 ≤ n ∧ n ≤ 16 then (if ((trn zs seed).length : Int) < n then ([], 140) else ((trn zs seed).take n.toNat, 0)) else ([], 1)
theorem cho_arg {zs : List Int} {seed n : Int} (h : ¬ (1 ≤ n ∧ n ≤ 16)) : cho zs seed n = ([], 1) := by unfold cho; rw [if_neg h]
theorem cho_few {zs : List Int} {seed n : Int} (h : 1 ≤ n ∧ n ≤ 16) (h2 : ((trn zs seed).length : Int) < n) : cho zs seed n = ([], 140) := by unfold cho; rw [if_pos h, if_pos h2]
theorem cho_ok {zs : List Int} {seed n : Int} (h : 1 ≤ n ∧ n ≤ 16) (h2 : ¬ ((trn zs seed).length : Int) < n) : cho zs seed n = ((trn zs seed).take n.toNat, 0) := by unfold cho; rw [if_pos h, if_neg h2]
theorem cho_len (zs : List Int) (seed n : Int) : (cho zs seed n).1.length ≤ 16 := by
  unfold cho
  split
  · split
    · simp
    · simp only [List.length_take]
      omega
  · simp
theorem flN (w : World) (Z : Nat → Prop) (p : Option Addr) : Fl w Z p (([] : List Int).map encI) := fun j u hu => by simp at hu

theorem choose_any (Z : Nat → Prop) (p : Option Addr) (cp : Nat) (zs : List Int) (seed n : Int) (w : World) (h : Fl w Z p (zs.map encI)) (hl : Hid (zs.length * 8 ≤ 140737488355328)) :
    Calls Try.prog 8 #[.slice p zs.length cp, .int .i64 seed, .int .i64 n] w fun e w' => ∃ q cq, e = .returned (.tuple #[.slice q (cho zs seed n).1.length cq, .int .i64 (cho zs seed n).2]) ∧ Kp (fun _ => False) w w' ∧ Fl w' (fun _ => True) q ((cho zs seed n).1.map encI) := by
  by_cases h1 : 1 ≤ n ∧ n ≤ 16
  · by_cases h2 : ((trn zs seed).length : Int) < n
    · refine (choose_few Z p cp zs seed n h1 h2 w h hl).mono ?_
      rintro e w' ⟨rfl, k⟩
      rw [cho_few h1 h2]
      exact ⟨none, 0, rfl, k, flN _ _ _⟩
    · obtain ⟨m, rfl⟩ : ∃ m : Nat, n = (m : Int) := ⟨n.toNat, by omega⟩
      refine (choose_ok Z p cp zs seed m (by omega) (by omega) w h hl).mono ?_
      rintro e w' ⟨g, rfl, k, _, lg⟩
      rw [cho_ok h1 h2]
      have hm : ((trn zs seed).take (m : Int).toNat).length = m := by rw [List.length_take]; omega
      refine ⟨some ⟨g, 0, none⟩, m, by rw [hm], k, fun j u hu => ⟨g, 0, rfl, trivial, ?_⟩⟩
      rw [Nat.zero_add]
      exact lg.cell hu
  · refine (choose_arg _ seed n h1 w).mono ?_
    rintro e w' ⟨rfl, rfl⟩
    rw [cho_arg h1]
    exact ⟨none, 0, rfl, Kp.refl _ _, flN _ _ _⟩

set_option maxRecDepth 100000 in
set_option maxHeartbeats 1600000 in
theorem xchoose_any (Z : Nat → Prop) (p : Option Addr) (cp : Nat) (zs : List Int) (seed n : Int) (w : World) (h : Fl w Z p (zs.map encI)) (hl : Hid (zs.length * 8 ≤ 140737488355328)) :
    Calls Try.prog 9 #[.slice p zs.length cp, .int .i64 seed, .int .i64 n] w fun e w' => ∃ q cq, e = .returned (.tuple #[.slice q (cho zs seed n).1.length cq, .int .i64 (cho zs seed n).2]) ∧ Kp (fun _ => False) w w' ∧ Fl w' (fun _ => True) q ((cho zs seed n).1.map encI) := by
  have HT : Hid (Calls _ _ _ w _) := xturned_ok Z p cp zs seed w h hl
  obtain ⟨L, hL⟩ : ∃ L, L = zs.length := ⟨_, rfl⟩
  rw [← hL] at HT ⊢
  clear h hl hL
  by_cases h1 : 1 ≤ n ∧ n ≤ 16
  · obtain ⟨m, rfl⟩ : ∃ m : Nat, n = (m : Int) := ⟨n.toNat, by omega⟩
    have hm1 : ¬ ((m : Int) < 1) := by omega
    have hm2 : ¬ ((m : Int) > 16) := by omega
    obtain ⟨T, hT⟩ : ∃ T, T = (trn zs seed).length := ⟨_, rfl⟩
    rw [← hT] at HT
    have HV : Hid (∀ (v : Value) (z : World), z.ownsRow w.heap.size 3 1 v T ((trn zs seed).map encI) → ∃ q cq, v = .slice q T cq ∧ (0 < T → ∃ g, q = some ⟨g, 0, none⟩) ∧ T ≤ cq ∧ Fl z (fun _ => True) q ((trn zs seed).map encI)) := fun v z o => by
      obtain ⟨q, cq, e, hf⟩ := own_fl o
      refine ⟨q, cq, e, fun h0 => ?_, ?_, hf.mono (fun _ _ => trivial)⟩
      · rcases o.2 with ⟨e1, e2⟩ | ⟨g, cap, cur, e1, _⟩
        · omega
        · rw [e] at e1; injection e1 with e1; exact ⟨g, e1⟩
      · rcases o.2 with ⟨e1, e2⟩ | ⟨g, cap, cur, e1, _, _, hnc, _⟩
        · omega
        · rw [e] at e1; injection e1 with _ _ e3; omega
    by_cases h2 : (T : Int) < (m : Int)
    · have HC : Hid (cho zs seed (m : Int) = ([], 140)) := cho_few h1 (by rw [← hT]; exact h2)
      clear hT h1
      go_enter Try.func9, Try.ntmps9
      go_wp2_with (go_at_call 17; refine HT.out.mono ?_; rintro e w1 ⟨v, rfl, k1, o1⟩; obtain ⟨q, cq, hv, _, _, _⟩ := HV.out _ _ o1; subst hv)
      go_ret2
      rw [HC.out]
      exact ⟨none, 0, rfl, k1, flN _ _ _⟩
    · have HC : Hid (cho zs seed (m : Int) = ((trn zs seed).take m, 0)) := cho_ok h1 (by rw [← hT]; exact h2)
      have HM : Hid (((trn zs seed).take m).length = m) := by show _ = _; rw [List.length_take]; omega
      have HMT : Hid (1 ≤ m ∧ m ≤ T) := ⟨by omega, by omega⟩
      have HSL : Hid (∀ (g cq : Nat), T ≤ cq → ∀ z : World, (Instr.slice 22 (.slice (some ⟨g, 0, none⟩) T cq) none (some (.int .i64 (m : Int))) none).run Try.prog z = .ok (.slice (some ⟨g, 0, none⟩) m cq) z) := fun g cq hq z => by
        obtain ⟨ti, hi0, hz0, hz1, hz2⟩ := info_parts infoInt
        have h3 : m ≤ cq := by omega
        simp [Instr.slice, Instr.sliceBounds, Instr.sliceBound, asIntOf, run_underlying Try.underlying22, sizeOf, typeInfo, hi0, hz1, h3, Addr.add]
      clear hT h1
      go_enter Try.func9, Try.ntmps9
      go_wp2_with (go_at_call 17; refine HT.out.mono ?_; rintro e w1 ⟨v, rfl, k1, o1⟩; obtain ⟨q, cq, hv, hg, hcq, hf⟩ := HV.out _ _ o1; subst hv; obtain ⟨g, hg⟩ := hg (by have := HMT.out; omega); subst hg; have hsl := HSL.out g cq hcq; have HFl : Hid (Fl w1 (fun _ => True) (some ⟨g, 0, none⟩) ((trn zs seed).map encI)) := hf; clear hf o1)
      go_ret2
      rw [HC.out]
      refine ⟨some ⟨g, 0, none⟩, cq, by rw [HM.out]; rfl, k1, fun j u hu => ?_⟩
      have hj : j < m := by
        have := (List.getElem?_eq_some_iff.1 hu).1
        rw [List.length_map, HM.out] at this
        exact this
      rw [List.getElem?_map, List.getElem?_take_of_lt hj, ← List.getElem?_map] at hu
      exact HFl.out j u hu
  · have HC : Hid (cho zs seed n = ([], 1)) := cho_arg h1
    by_cases h2 : n < 1
    · clear h1
      go_enter Try.func9, Try.ntmps9
      go_wp2
      go_ret2
      rw [HC.out]
      exact ⟨none, 0, rfl, Kp.refl _ _, flN _ _ _⟩
    · have h3 : n > 16 := by omega
      clear h1
      go_enter Try.func9, Try.ntmps9
      go_wp2
      go_ret2
      rw [HC.out]
      first | exact ⟨none, 0, rfl, Kp.refl _ _, flN _ _ _⟩ | exact ⟨none, ⟨0, rfl⟩, Kp.refl _ _, flN _ _ _⟩

theorem find_at {l : List Int} {f : Int → Bool} {k : Nat} (hk : k < l.length) (h : ∀ z ∈ l.take k, f z = false) (h1 : f l[k] = true) : l.find? f = some l[k] := by
  have e : l = l.take k ++ l[k] :: l.drop (k + 1) := by rw [← List.drop_eq_getElem_cons hk, List.take_append_drop]
  generalize l[k] = y at e h1 ⊢
  rw [e, List.find?_append, List.find?_eq_none.2 (fun z hz => by rw [h z hz]; simp), List.find?_cons, h1]
  rfl
theorem nx_eq (l : List Int) (x y : Int) : decide (y ∉ l ++ [x]) = (decide (y ∉ l) && !decide (x = y)) := by
  by_cases h5 : y ∈ l
  · have h7 : ¬ (y ∉ l ++ [x]) := fun h => h (List.mem_append_left _ h5)
    have h8 : ¬ (y ∉ l) := fun h => h h5
    rw [decide_eq_false h7, decide_eq_false h8]
    rfl
  · by_cases h6 : x = y
    · have h7 : ¬ (y ∉ l ++ [x]) := fun h => h (by rw [h6]; simp)
      rw [decide_eq_false h7, decide_eq_true h5, decide_eq_true h6]
      rfl
    · have h7 : y ∉ l ++ [x] := fun h => by
        rcases List.mem_append.1 h with h | h
        · exact h5 h
        · rw [List.mem_singleton] at h; exact h6 h.symm
      rw [decide_eq_true h7, decide_eq_true h5, decide_eq_false h6]
      rfl
theorem lck_in {us : List Int} {z : Int} (h : 0 ≤ z ∧ z < 16) : lck (setOf us) z = decide (z ∉ us) := by
  unfold lck
  rw [setOf_at us (n := z.toNat) (by omega), show ((z.toNat : Nat) : Int) = z by omega]
  simp

set_option maxRecDepth 100000 in
set_option maxHeartbeats 3200000 in
theorem xspare_ok (Z1 Z2 : Nat → Prop) (p1 p2 : Option Addr) (c1 c2 : Nat) (zs us : List Int) (seed : Int) (w : World) (h1 : Fl w Z1 p1 (zs.map encI)) (h2 : Fl w Z2 p2 (us.map encI)) (hl1 : Hid (zs.length * 8 ≤ 140737488355328)) (hl2 : Hid (us.length * 8 ≤ 140737488355328)) :
    Calls Try.prog 11 #[.slice p1 zs.length c1, .slice p2 us.length c2, .int .i64 seed] w fun e w' => e = .returned (.tuple #[.int .i64 ((fstS zs seed (setOf us)).getD 0), .int .i64 (if (fstS zs seed (setOf us)).isSome then 0 else 140)]) ∧ Kp (fun _ => False) w w' := by
  have HT : Hid (Calls _ _ _ w _) := xturned_ok Z1 p1 c1 zs seed w h1 hl1
  obtain ⟨L, hL⟩ : ∃ L, L = zs.length := ⟨_, rfl⟩
  obtain ⟨M, hM⟩ : ∃ M, M = us.length := ⟨_, rfl⟩
  have HM : Hid (M = us.length) := hM
  have HKM : Hid (M * 8 ≤ 140737488355328) := by rw [hM]; exact hl2
  have HU : Hid (Fl w Z2 p2 (us.map encI)) := h2
  rw [← hL] at HT ⊢
  rw [← hM]
  obtain ⟨ts, hts⟩ : ∃ ts, ts = trn zs seed := ⟨_, rfl⟩
  rw [← hts] at HT
  have HR : Hid (∀ z ∈ ts, 0 ≤ z ∧ z < 16) := fun z hz => by rw [hts] at hz; exact (trn_mem hz).2
  have HFS : Hid (fstS zs seed (setOf us) = ts.find? (lck (setOf us))) := by rw [hts]; rfl
  obtain ⟨T, hT⟩ : ∃ T, T = ts.length := ⟨_, rfl⟩
  have HTL : Hid (T = ts.length ∧ T ≤ 16) := ⟨hT, by rw [hT, hts, trn_len]; exact rs_len zs⟩
  rw [← hT] at HT
  obtain ⟨ra, hra⟩ : ∃ ra, ra = (fstS zs seed (setOf us)).getD 0 := ⟨_, rfl⟩
  obtain ⟨rb, hrb⟩ : ∃ rb : Int, rb = if (fstS zs seed (setOf us)).isSome then 0 else 140 := ⟨_, rfl⟩
  have HRA : Hid (ra = (fstS zs seed (setOf us)).getD 0 ∧ rb = if (fstS zs seed (setOf us)).isSome then 0 else 140) := ⟨hra, hrb⟩
  rw [← hra, ← hrb]
  clear h1 h2 hl1 hl2 hL hM hts hT hra hrb
  have hT16 : T ≤ 16 := HTL.out.2
  go_enter Try.func11, Try.ntmps11
  go_wp2_with (go_at_call 17; refine HT.out.mono ?_; rintro e w1 ⟨v, rfl, k1, o1⟩; obtain ⟨q, cq, hv, hf⟩ := own_fl o1; subst hv; have HF1 : Hid (∀ z, Kp (fun _ => False) w1 z → Fl z (fun _ => True) q (ts.map encI)) := (fun z kz => (hf.mono (fun _ _ => trivial)).keep kz (fun _ _ => id)); have HK1 : Hid (Kp (fun _ => False) w w1) := k1; clear k1 o1 hf)
  go_loopg [17] T (fun gk i wr => ∃ k : Nat, k ≤ T ∧ gk = T - k ∧ i = .int .i64 k ∧ wr = w1 ∧ Hid (∀ z ∈ ts.take k, lck (setOf us) z = false))
  case atStart => exact ⟨0, Nat.zero_le _, rfl, rfl, rfl, by simp [Hid]⟩
  case round =>
    obtain ⟨k, hk, rfl, rfl, hwr, HS⟩ := hrel
    subst hwr
    by_cases hlt : (k : Int) < (T : Int)
    · have hkt : k < ts.length := by have := HTL.out; omega
      have hg : (ts.map encI)[k]? = some (encI ts[k]) := by rw [List.getElem?_map, List.getElem?_eq_getElem hkt]; rfl
      obtain ⟨b1, o1, rfl, _, e1⟩ := HF1.out _ (Kp.refl _ _) k _ hg
      have HRk := HR.out ts[k] (List.getElem_mem hkt)
      have HTk0 : ts.take (k + 1) = ts.take k ++ [ts[k]] := List.take_succ_eq_append_getElem hkt
      have HFA0 : (∀ z ∈ ts.take k, lck (setOf us) z = false) → lck (setOf us) ts[k] = true → ts.find? (lck (setOf us)) = some ts[k] := fun h h1 => find_at hkt h h1
      obtain ⟨y, hy⟩ : ∃ y, y = ts[k] := ⟨_, rfl⟩
      rw [← hy] at e1 HRk HTk0 HFA0
      have HTk : Hid (ts.take (k + 1) = ts.take k ++ [y]) := HTk0
      have HFA : Hid ((∀ z ∈ ts.take k, lck (setOf us) z = false) → lck (setOf us) y = true → ts.find? (lck (setOf us)) = some y) := HFA0
      have HLY : Hid (lck (setOf us) y = decide (y ∉ us)) := lck_in HRk
      have HW : Hid (wrap64 ((k : Int) + 1) = ((k + 1 : Nat) : Int)) := by show _ = _; unfold wrap64; omega
      clear hg hy hkt HRk HTk0 HFA0
      go_wp2
      go_loopg [10, 23] M (fun gj fv jv wj => ∃ j : Nat, j ≤ M ∧ gj = M - j ∧ fv = .bool (decide (y ∉ us.take j)) ∧ jv = .int .i64 j ∧ wj = wr)
      case atStart => exact ⟨0, Nat.zero_le _, rfl, by simp, rfl, rfl⟩
      case round =>
        obtain ⟨j, hj, rfl, rfl, rfl, hwj⟩ := hrel
        subst hwj
        by_cases hjl : (j : Int) < (M : Int)
        · have hju : j < us.length := by have := HM.out; omega
          have hg : (us.map encI)[j]? = some (encI us[j]) := by rw [List.getElem?_map, List.getElem?_eq_getElem hju]; rfl
          obtain ⟨b2, o2, rfl, _, e2⟩ := (HU.out.keep HK1.out (fun _ _ => id)) j _ hg
          obtain ⟨x, hx⟩ : ∃ x, x = us[j] := ⟨_, rfl⟩
          rw [← hx] at e2
          have HTj : Hid (us.take (j + 1) = us.take j ++ [x]) := by rw [hx]; exact List.take_succ_eq_append_getElem hju
          have HWj : Hid (wrap64 ((j : Int) + 1) = ((j + 1 : Nat) : Int)) := by show _ = _; have := HKM.out; unfold wrap64; omega
          have HJL : Hid (j < M) := by show _ < _; omega
          clear hg hx hju
          obtain ⟨fb, hfb⟩ : ∃ fb, fb = decide (y ∉ us.take j) := ⟨_, rfl⟩
          have HFB : Hid (fb = decide (y ∉ us.take j)) := hfb
          rw [← hfb]
          clear hfb
          have HNX : Hid (decide (y ∉ us.take (j + 1)) = (fb && !decide (x = y))) := by
            show _ = _
            rw [HTj.out, HFB.out]
            exact nx_eq _ _ _
          cases fb with
          | true =>
            by_cases hxy : x = y
            · have HN2 : Hid (decide (y ∉ us.take (j + 1)) = false) := by show _ = _; rw [HNX.out, decide_eq_true hxy]; rfl
              go_wp2
              go_roundg (M - (j + 1))
              case rel => exact ⟨j + 1, by have := HJL.out; omega, rfl, by rw [HN2.out] <;> (first | rfl | simp [hxy]), by first | rfl | rw [HWj.out], rfl⟩
              case measure => have := HJL.out; omega
            · have HN2 : Hid (decide (y ∉ us.take (j + 1)) = true) := by show _ = _; rw [HNX.out, decide_eq_false hxy]; rfl
              go_wp2
              go_roundg (M - (j + 1))
              case rel => exact ⟨j + 1, by have := HJL.out; omega, rfl, by rw [HN2.out] <;> (first | rfl | simp [hxy]), by first | rfl | rw [HWj.out], rfl⟩
              case measure => have := HJL.out; omega
          | false =>
            have HN2 : Hid (decide (y ∉ us.take (j + 1)) = false) := by show _ = _; rw [HNX.out]; rfl
            go_wp2
            go_roundg (M - (j + 1))
            case rel => exact ⟨j + 1, by have := HJL.out; omega, rfl, by rw [HN2.out], by first | rfl | rw [HWj.out], rfl⟩
            case measure => have := HJL.out; omega
        · have htk : us.take j = us := List.take_of_length_le (by have := HM.out; omega)
          rw [htk, ← HLY.out]
          obtain ⟨lb, hlb⟩ : ∃ lb, lb = lck (setOf us) y := ⟨_, rfl⟩
          have HLB : Hid (lb = lck (setOf us) y) := hlb
          rw [← hlb]
          clear htk hlb
          cases lb with
          | true =>
            have HFF : Hid (fstS zs seed (setOf us) = some y) := by rw [HFS.out]; exact HFA.out HS.out HLB.out.symm
            have e9 : ra = y := by rw [HRA.out.1, HFF.out]; rfl
            have e8 : rb = 0 := by rw [HRA.out.2, HFF.out]; rfl
            subst e9 e8
            go_wp2
            go_ret2
            exact ⟨rfl, HK1.out⟩
          | false =>
            go_wp2
            go_roundg (T - (k + 1))
            case rel => exact ⟨k + 1, by omega, rfl, by first | rfl | rw [HW.out], rfl, by
              show ∀ z ∈ ts.take (k + 1), _
              rw [HTk.out]
              intro z hz
              rcases List.mem_append.1 hz with hz | hz
              · exact HS.out z hz
              · rw [List.mem_singleton] at hz; rw [hz]; exact HLB.out.symm⟩
            case measure => omega
    · have HNo : Hid (fstS zs seed (setOf us) = none) := by
        rw [HFS.out]
        have hs := HS.out
        rw [List.take_of_length_le (by have := HTL.out; omega)] at hs
        exact List.find?_eq_none.2 (fun z hz => by rw [hs z hz]; simp)
      have e9 : ra = 0 := by rw [HRA.out.1, HNo.out]; rfl
      have e8 : rb = 140 := by rw [HRA.out.2, HNo.out]; rfl
      subst e9 e8
      go_wp2
      go_ret2
      exact ⟨rfl, HK1.out⟩

set_option maxRecDepth 100000 in
set_option maxHeartbeats 6400000 in
theorem placeTells_walk (v0 : Value) (L0 : Nat) (v1 : Value) (L1 : Nat) (seed n0 : Int) (w : World) (h0 : Ints w v0 L0) (h1 : Ints w v1 L1) :
    Calls Try.prog 3 #[v0, v1, .int .i64 seed, .int .i64 n0] w fun e w' => e = .returned (.bool true) ∧ Kp (fun _ => False) w w' := by
  obtain ⟨p, c, zs, rfl, hz, _, hi, hb⟩ := h0
  obtain ⟨p2, c2, us, rfl, hu, _, hi2, hb2⟩ := h1
  have HZ : Hid (∀ z, Kp (fun _ => False) w z → Fl z (fun _ => True) p (zs.map encI)) := fun z k => ((ints_fl hi).mono (fun _ _ => trivial)).keep k (fun _ _ => id)
  have HU : Hid (∀ z, Kp (fun _ => False) w z → Fl z (fun _ => True) p2 (us.map encI)) := fun z k => ((ints_fl hi2).mono (fun _ _ => trivial)).keep k (fun _ _ => id)
  subst hz hu
  have HB1 : Hid (zs.length * 8 ≤ 140737488355328) := hb
  have HB2 : Hid (us.length * 8 ≤ 140737488355328) := hb2
  have HCL : Hid (Calls _ _ _ w _) := clone_ints (fun _ => True) p c zs w (HZ.out _ (Kp.refl _ _)) HB1
  have HCH : Hid (∀ (q : Option Addr) (cq : Nat) (z : World), Fl z (fun _ => True) q (zs.map encI) → Calls _ _ _ z _) := fun q cq z hf => choose_any _ q cq zs seed n0 z hf HB1
  have HXC : Hid (∀ z, Kp (fun _ => False) w z → Calls _ _ _ z _) := fun z k => xchoose_any _ p c zs seed n0 z (HZ.out z k) HB1
  have HSP : Hid (∀ (q : Option Addr) (cq : Nat) (z : World), Fl z (fun _ => True) q (zs.map encI) → Kp (fun _ => False) w z → Calls _ _ _ z _) := fun q cq z hf k => spare_ok _ _ q p2 cq c2 zs us seed z hf (HU.out z k) HB1 HB2
  have HXS : Hid (∀ z, Kp (fun _ => False) w z → Calls _ _ _ z _) := fun z k => xspare_ok _ _ p p2 c c2 zs us seed z (HZ.out z k) (HU.out z k) HB1 HB2
  have HEG : Hid (∀ (q : Option Addr) (cq : Nat) (z : World), Fl z (fun _ => True) q (zs.map encI) → Kp (fun _ => False) w z → Calls Try.prog 12 #[.slice q zs.length cq, .slice p zs.length c] z fun e w' => e = .returned (.bool true) ∧ Kp (fun _ => False) z w') := fun q cq z hf k => by
    have := eq_ints _ _ q p cq c zs zs z hf (HZ.out z k) HB1
    rw [decide_eq_true rfl] at this
    exact this
  have HCN := cho_len zs seed n0
  have HEA : Hid (∀ (q1 q2 : Option Addr) (d1 d2 : Nat) (z : World), Fl z (fun _ => True) q1 ((cho zs seed n0).1.map encI) → Fl z (fun _ => True) q2 ((cho zs seed n0).1.map encI) → Calls Try.prog 12 #[.slice q1 (cho zs seed n0).1.length d1, .slice q2 (cho zs seed n0).1.length d2] z fun e w' => e = .returned (.bool true) ∧ Kp (fun _ => False) z w') := fun q1 q2 d1 d2 z f1 f2 => by
    have := eq_ints _ _ q1 q2 d1 d2 _ _ z f1 f2 (by show _ ≤ _; omega)
    rw [decide_eq_true rfl] at this
    exact this
  have HAW : Hid (∀ z, Calls _ _ _ z _) := fun z => awake_ok z
  obtain ⟨ch, hch⟩ : ∃ ch, ch = cho zs seed n0 := ⟨_, rfl⟩
  rw [← hch] at HCH HXC HEA
  obtain ⟨cl, ce⟩ := ch
  dsimp only at HCH HXC HEA
  obtain ⟨CN, hCN⟩ : ∃ CN, CN = cl.length := ⟨_, rfl⟩
  rw [← hCN] at HCH HXC HEA
  obtain ⟨ra, hra⟩ : ∃ ra, ra = (fstS zs seed (setOf us)).getD 0 := ⟨_, rfl⟩
  obtain ⟨rb, hrb⟩ : ∃ rb : Int, rb = if (fstS zs seed (setOf us)).isSome then 0 else 140 := ⟨_, rfl⟩
  rw [← hra, ← hrb] at HSP HXS
  obtain ⟨ZL, hZL⟩ : ∃ ZL, ZL = zs.length := ⟨_, rfl⟩
  obtain ⟨UL, hUL⟩ : ∃ UL, UL = us.length := ⟨_, rfl⟩
  rw [← hZL] at HCL HCH HXC HSP HXS HEG ⊢
  rw [← hUL] at HSP HXS ⊢
  clear hi hi2 hb hb2 hch hCN hra hrb hZL hUL HCN HB1 HB2
  go_enter Try.func3, Try.ntmps3
  go_wp2_with fail
  refine HCL.out.mono ?_
  rintro e w1 ⟨v1, rfl, k1, o1⟩
  obtain ⟨q1, d1, hv1, f1⟩ := own_fl o1
  subst hv1
  have HK1 : Hid (Kp (fun _ => False) w w1) := k1
  have HG : Hid (∀ z, Kp (fun _ => False) w1 z → Fl z (fun _ => True) q1 (zs.map encI)) := fun z k => (f1.mono (fun _ _ => trivial)).keep k (fun _ _ => id)
  clear k1 o1 f1 HCL
  go_wp2_with fail
  refine (HCH.out q1 d1 w1 (HG.out _ (Kp.refl _ _))).mono ?_
  rintro e w2 ⟨q2, d2, rfl, k2, f2⟩
  have HK2 : Hid (Kp (fun _ => False) w1 w2) := k2
  have HF2 : Hid (∀ z, Kp (fun _ => False) w2 z → Fl z (fun _ => True) q2 (cl.map encI)) := fun z k => f2.keep k (fun _ _ => id)
  clear k2 f2 HCH
  go_wp2_with fail
  refine (HXC.out w2 (HK1.out.trans HK2.out (fun _ _ e => e))).mono ?_
  rintro e w3 ⟨q3, d3, rfl, k3, f3⟩
  have HK3 : Hid (Kp (fun _ => False) w2 w3) := k3
  have HF3 : Hid (∀ z, Kp (fun _ => False) w3 z → Fl z (fun _ => True) q3 (cl.map encI)) := fun z k => f3.keep k (fun _ _ => id)
  have HKA : Hid (Kp (fun _ => False) w1 w3) := HK2.out.trans k3 (fun _ _ e => e)
  clear k3 f3 HXC HK2
  go_wp2_with fail
  refine (HSP.out q1 d1 w3 (HG.out _ HKA.out) (HK1.out.trans HKA.out (fun _ _ e => e))).mono ?_
  rintro e w4 ⟨rfl, k4⟩
  have HK4 : Hid (Kp (fun _ => False) w3 w4) := k4
  clear k4 HSP
  go_wp2_with fail
  refine (HXS.out w4 ((HK1.out.trans HKA.out (fun _ _ e => e)).trans HK4.out (fun _ _ e => e))).mono ?_
  rintro e w5 ⟨rfl, k5⟩
  have HK5 : Hid (Kp (fun _ => False) w3 w5) := HK4.out.trans k5 (fun _ _ e => e)
  clear k5 HXS HK4
  go_wp2_with fail
  refine (HEA.out q2 q3 d2 d3 w5 (HF2.out _ (HK3.out.trans HK5.out (fun _ _ e => e))) (HF3.out _ HK5.out)).mono ?_
  rintro e w6 ⟨rfl, k6⟩
  have HK6 : Hid (Kp (fun _ => False) w1 w6) := (HKA.out.trans HK5.out (fun _ _ e => e)).trans k6 (fun _ _ e => e)
  clear k6 HEA HF2 HF3 HK5 HK3 HKA
  go_wp2_with fail
  refine (HEG.out q1 d1 w6 (HG.out _ HK6.out) (HK1.out.trans HK6.out (fun _ _ e => e))).mono ?_
  rintro e w7 ⟨rfl, k7⟩
  have HK7 : Hid (Kp (fun _ => False) w w7) := (HK1.out.trans HK6.out (fun _ _ e => e)).trans k7 (fun _ _ e => e)
  clear k7 HEG HG HK6 HK1
  go_wp2_with fail
  refine (HAW.out w7).mono ?_
  rintro e w8 ⟨rfl, k8⟩
  go_wp2
  go_ret
  exact ⟨rfl, HK7.out.trans k8 (fun _ _ e => e)⟩
end Go.Proofs.Ytneobpdbfbcnmaa
