/- The document's answer for place: turned, Choose, Spare (laid by scripts/mkhs.py). -/
import Derived.Test.YtneobpdbfbcnmaaHo
import Derived.Test.YtneobpdbfbcnmaaHr
import Derived.Handy
namespace Go.Proofs.Ytneobpdbfbcnmaa
set_option linter.unusedVariables false
set_option linter.unusedSimpArgs false
open Go.RowKit Go.Deep

theorem rot_eq (l : List Int) (b : Nat) (hb : b < l.length) : (List.range l.length).map (fun i : Nat => l.getD ((i + b) % l.length) 0) = l.drop b ++ l.take b := by
  apply List.ext_getElem
  · simp; omega
  · intro i h1 h2
    simp at h1
    rw [List.getElem_map, List.getElem_range]
    by_cases hi : i < l.length - b
    · rw [List.getElem_append_left (by rw [List.length_drop]; exact hi), List.getElem_drop, Nat.mod_eq_of_lt (by omega), List.getD_eq_getElem?_getD, List.getElem?_eq_getElem (by omega)]
      simp [Nat.add_comm]
    · rw [List.getElem_append_right (by rw [List.length_drop]; omega), List.getElem_take]
      have e : (i + b) % l.length = i + b - l.length := by
        rw [Nat.mod_eq_sub_mod (by omega), Nat.mod_eq_of_lt (by omega)]
      have hl : i + b - l.length < l.length := by omega
      rw [e, List.getD_eq_getElem?_getD, List.getElem?_eq_getElem hl]
      simp only [List.length_drop, Option.getD_some]
      congr 1
      omega
theorem trn_rot (zs : List Int) (seed : Int) (h : 0 < (rs zs).length) : trn zs seed = (rs zs).drop (beg seed (rs zs).length) ++ (rs zs).take (beg seed (rs zs).length) := rot_eq (rs zs) _ (beg_lt seed h)
theorem trn_nil (zs : List Int) (seed : Int) (h : (rs zs).length = 0) : trn zs seed = [] := by unfold trn; rw [h]; rfl
theorem setOf_at (zs : List Int) {n : Nat} (h : n < 16) : (setOf zs).getD n false = decide ((n : Int) ∈ zs) := by
  unfold setOf
  rw [List.getD_eq_getElem?_getD, List.getElem?_map, List.getElem?_range h]
  rfl
/-- a part of a row of one's own, as what is appended -/
theorem src_part {w : World} {base g n c : Nat} {l : List Int} (h : w.ownsRow base 3 1 (.slice (some ⟨g, 0, none⟩) n c) n (l.map encI)) (o k cc : Nat) : Src Try.prog 1 22 (.slice (some ⟨g, o, none⟩) ((l.drop o).take k).length cc) ((l.drop o).take k).length (((l.drop o).take k).map encI) w := by
  refine Src.ofSlice _ Try.underlying22 ⟨g, o, none⟩ _ cc _ (by simp) (fun j u hj => ?_) (fun u hu => by obtain ⟨z, _, rfl⟩ := List.mem_map.1 hu; rfl)
  rw [Addr.add_mid]
  have hj2 : (l.map encI)[o + j]? = some u := by
    rw [List.getElem?_map] at hj ⊢
    have hjk : j < k := by
      cases h9 : ((l.drop o).take k)[j]? with
      | none => rw [h9] at hj; cases hj
      | some x => have := (List.getElem?_eq_some_iff.1 h9).1; rw [List.length_take] at this; omega
    rw [List.getElem?_take_of_lt hjk, List.getElem?_drop] at hj
    exact hj
  have := h.cells (g := g) rfl (o + j) u hj2
  rw [Addr.add_mid, Nat.zero_add] at this
  exact this

set_option maxRecDepth 100000 in
set_option maxHeartbeats 3200000 in
theorem xturned_ok (Z : Nat → Prop) (p : Option Addr) (cp : Nat) (zs : List Int) (seed : Int) (w : World) (h : Fl w Z p (zs.map encI)) (hl : Hid (zs.length * 8 ≤ 140737488355328)) :
    Calls Try.prog 17 #[.slice p zs.length cp, .int .i64 seed] w fun e w' => ∃ v, e = .returned v ∧ Kp (fun _ => False) w w' ∧ w'.ownsRow w.heap.size 3 1 v (trn zs seed).length ((trn zs seed).map encI) := by
  obtain ⟨L, hL⟩ : ∃ L, L = zs.length := ⟨_, rfl⟩
  have HL : Hid (L = zs.length) := hL
  have HF : Hid (Fl w Z p (zs.map encI)) := h
  have HKL : Hid (L * 8 ≤ 140737488355328) := by rw [hL]; exact hl
  rw [← hL]
  obtain ⟨ti, hi0, hz0, hz1, hz2⟩ := info_parts infoInt
  clear h hL hl
  go_enter Try.func17, Try.ntmps17
  go_wp2
  go_loopg [5, 10] 16 (fun gk rv iv wr => ∃ k : Nat, k ≤ 16 ∧ gk = 16 - k ∧ iv = .int .i64 k ∧ Hid (Kp (fun _ => False) w wr) ∧ Hid (wr.ownsRow w.heap.size 3 1 rv (rise (setOf zs) k).length ((rise (setOf zs) k).map encI)))
  case atStart => exact ⟨0, by omega, rfl, rfl, Kp.refl _ _, World.ownsRow_nil _ _ _ _⟩
  case round =>
    obtain ⟨k, hk, rfl, rfl, HK, HO⟩ := hrel
    obtain ⟨rv, rfl⟩ : ∃ x, x = u5 := ⟨_, rfl⟩
    by_cases hlt : (k : Int) < 16
    · have HS0 := rise_succ (setOf zs) k
      rw [setOf_at zs (by omega)] at HS0
      have HS : Hid (rise (setOf zs) (k + 1) = if decide ((k : Int) ∈ zs) then rise (setOf zs) k ++ [(k : Int)] else rise (setOf zs) k) := HS0
      have HW : Hid (wrap64 ((k : Int) + 1) = ((k + 1 : Nat) : Int)) := by show _ = _; unfold wrap64; omega
      have HLn : Hid ((rise (setOf zs) k).length ≤ 16) := Nat.le_trans (rise_len (setOf zs) k) (by omega)
      obtain ⟨rk, hrk⟩ : ∃ rk, rk = rise (setOf zs) k := ⟨_, rfl⟩
      rw [← hrk] at HS HO HLn
      obtain ⟨qa, ca, hrv, _⟩ := own_fl HO.out
      obtain ⟨n1, hn1⟩ : ∃ n, n = rk.length := ⟨_, rfl⟩
      rw [← hn1] at hrv HO HLn
      subst hrv
      have HN1 : Hid (n1 = rk.length) := hn1
      clear hrk hn1 HS0
      go_wp2
      go_loopg [5, 15] L (fun gj rv2 jv wj => ∃ j : Nat, j ≤ L ∧ gj = L - j ∧ rv2 = .slice qa n1 ca ∧ jv = .int .i64 j ∧ wj = wr ∧ Hid ((k : Int) ∉ zs.take j))
      case atStart => exact ⟨0, Nat.zero_le _, rfl, rfl, rfl, rfl, by simp [Hid]⟩
      case round =>
        obtain ⟨j, hj, rfl, rfl, rfl, hwj, HT⟩ := hrel
        subst hwj
        by_cases hjl : (j : Int) < (L : Int)
        · have hjz : j < zs.length := by have := HL.out; omega
          have hg : (zs.map encI)[j]? = some (encI zs[j]) := by rw [List.getElem?_map, List.getElem?_eq_getElem hjz]; rfl
          obtain ⟨b1, o1, rfl, _, e1⟩ := (HF.out.keep HK.out (fun _ _ => id)) j _ hg
          obtain ⟨y, hy⟩ : ∃ y, y = zs[j] := ⟨_, rfl⟩
          rw [← hy] at e1
          have HTk : Hid (zs.take (j + 1) = zs.take j ++ [y] ∧ y ∈ zs) := ⟨by rw [hy, List.take_succ_eq_append_getElem hjz], by rw [hy]; exact List.getElem_mem hjz⟩
          have HWj : Hid (wrap64 ((j : Int) + 1) = ((j + 1 : Nat) : Int)) := by show _ = _; have := HKL.out; unfold wrap64; omega
          have HJL : Hid (j < L) := by show _ < _; omega
          clear hg hy hjz
          by_cases hky : y = (k : Int)
          · subst hky
            have HS2 : Hid (rise (setOf zs) (k + 1) = rk ++ [(k : Int)]) := by have := HS.out; rw [decide_eq_true HTk.out.2] at this; exact this
            have kn : Kp (fun _ => False) wr (wr.alloc (.cells #[.int .i64 (k : Int)] 3)) := (Kp.refl _ _).alloc _
            have HO1 : Hid ((wr.alloc (.cells #[.int .i64 (k : Int)] 3)).ownsRow w.heap.size 3 1 (.slice qa n1 ca) n1 (rk.map encI)) := ownsRow_keep HO.out kn (fun _ _ => id)
            have HNf : Hid (Src Try.prog 1 22 (.slice (some ⟨wr.heap.size, 0, none⟩) 1 1) 1 [encI (k : Int)] (wr.alloc (.cells #[.int .i64 (k : Int)] 3))) := Src.ofSlice _ Try.underlying22 ⟨wr.heap.size, 0, none⟩ 1 1 [encI (k : Int)] rfl (fun j u hj => by rw [Addr.add_mid, Nat.zero_add]; exact (Lv.new wr #[.int .i64 (k : Int)] 3).cell hj) (fun u hu => by rw [List.mem_singleton] at hu; rw [hu]; rfl)
            have HSz : Hid (w.heap.size ≤ (wr.alloc (.cells #[.int .i64 (k : Int)] 3)).heap.size) := Nat.le_trans HK.out.size kn.size
            have HKa : Hid (Kp (fun _ => False) w (wr.alloc (.cells #[.int .i64 (k : Int)] 3))) := HK.out.trans kn (fun _ _ e => e)
            clear kn
            go_wp2_with (at_builtin; refine wpList_append_own_src _ rfl _ _ 22 22 rfl w.heap.size 3 ti (.int .i64 0) 1 8 Try.underlying22 hi0 hz0 hz1 hz2 rfl (by decide) (.slice qa n1 ca) n1 (rk.map encI) rfl HO1.out _ 1 [encI (k : Int)] rfl HNf.out (by have := HLn.out; unfold maxLen; omega) (by have := HLn.out; omega) HSz.out ?_; intro v2 w3 hown' hk3 hblk3; have HK3 : Hid (Kp (fun _ => False) w w3) := HKa.out.app HO1.out (grownBy_kp hk3); have HO3 : Hid (w3.ownsRow w.heap.size 3 1 v2 (rise (setOf zs) (k + 1)).length ((rise (setOf zs) (k + 1)).map encI)) := (by rw [HS2.out, List.length_append, List.map_append, ← HN1.out]; exact hown'); clear hown' hk3 hblk3)
            go_roundg (16 - (k + 1))
            case rel => exact ⟨k + 1, by omega, rfl, by first | rfl | rw [HW.out], HK3, HO3⟩
            case measure => omega
          · go_wp2
            go_roundg (L - (j + 1))
            case rel => exact ⟨j + 1, by have := HJL.out; omega, rfl, rfl, by first | rfl | rw [HWj.out], rfl, by show _ ∉ _; rw [HTk.out.1]; simp only [List.mem_append, List.mem_singleton]; exact fun e => e.elim HT.out (fun e => hky e.symm)⟩
            case measure => have := HJL.out; omega
        · have HS2 : Hid (rise (setOf zs) (k + 1) = rk) := by
            have hn : (k : Int) ∉ zs := by
              have := HT.out
              rw [List.take_of_length_le (by have := HL.out; omega)] at this
              exact this
            have := HS.out
            rw [decide_eq_false hn] at this
            exact this
          have HO2 : Hid (wr.ownsRow w.heap.size 3 1 (.slice qa n1 ca) (rise (setOf zs) (k + 1)).length ((rise (setOf zs) (k + 1)).map encI)) := by rw [HS2.out, ← HN1.out]; exact HO.out
          go_wp2
          go_roundg (16 - (k + 1))
          case rel => exact ⟨k + 1, by omega, rfl, by first | rfl | rw [HW.out], HK, HO2⟩
          case measure => omega
    · obtain rfl : k = 16 := by omega
      have HO2 : Hid (wr.ownsRow w.heap.size 3 1 rv (rs zs).length ((rs zs).map encI)) := HO.out
      have h16 := rs_len zs
      rcases Joins.ownsRow_forms HO2.out with ⟨e1, e2⟩ | ⟨g, cap, e⟩
      · subst e1
        have HE : Hid (trn zs seed = []) := trn_nil zs seed e2
        clear e2 h16
        go_wp2
        go_ret
        exact ⟨_, rfl, HK.out, by rw [HE.out]; exact World.ownsRow_nil _ _ _ _⟩
      · subst e
        by_cases h0 : (rs zs).length = 0
        · have HE : Hid (trn zs seed = []) := trn_nil zs seed h0
          rw [h0]
          clear h0 h16
          go_wp2
          go_ret
          exact ⟨_, rfl, HK.out, by rw [HE.out]; exact World.ownsRow_nil _ _ _ _⟩
        · have hbe := beg_eq seed (c := (rs zs).length) (by omega) h16
          have hbl := beg_lt seed (c := (rs zs).length) (by omega)
          have hrot := trn_rot zs seed (by omega)
          have HO3 := HO2.out
          obtain ⟨ls, hls⟩ : ∃ ls, ls = rs zs := ⟨_, rfl⟩
          rw [← hls] at hbe hbl hrot HO3 h16 h0 ⊢
          obtain ⟨bb, hbb⟩ : ∃ bb, bb = beg seed ls.length := ⟨_, rfl⟩
          rw [← hbb] at hbe hbl hrot
          obtain ⟨n, hn⟩ : ∃ n, n = ls.length := ⟨_, rfl⟩
          rw [← hn] at hbe hbl HO3 h16 h0 ⊢
          have hwn : IntKind.u64.wrap (n : Int) = (n : Int) := by rw [IntKind.wrap_u64]; omega
          rw [hwn] at hbe
          have hncap : n ≤ cap := by
            rcases HO3.2 with ⟨e1, e2⟩ | ⟨g', cap', cur, e1, _, _, hnc, _⟩
            · cases e1
            · injection e1 with _ _ e3
              omega
          have kd : Kp (fun _ => False) wr wr.drew := (Kp.refl _ _).drew
          obtain ⟨q, hq⟩ : ∃ q, q = wr.drew.heap.size := ⟨_, rfl⟩
          obtain ⟨w1, hw1⟩ : ∃ x, x = wr.drew.alloc (.cells #[] 3) := ⟨_, rfl⟩
          have k1 : Kp (fun _ => False) wr w1 := by rw [hw1]; exact kd.alloc _
          have o1 : w1.ownsRow wr.heap.size 3 1 (.slice (some ⟨q, 0, none⟩) 0 0) 0 [] := by
            rw [hw1, hq]
            exact World.ownsRow_made wr.drew #[] 0 (Nat.le_refl _) (by unfold maxLen; omega) rfl
          have or1 := ownsRow_keep HO3 k1 (fun _ _ e => e)
          have hd1 : ((ls.drop bb).take (n - bb)) = ls.drop bb := List.take_of_length_le (by rw [List.length_drop]; omega)
          have hln1 : (ls.drop bb).length = n - bb := by rw [List.length_drop]; omega
          have hs1 := src_part or1 bb (n - bb) (cap - bb)
          rw [hd1, hln1] at hs1
          obtain ⟨v2, w2, hap1, ow2, gr2, bl2⟩ := run_append_own_src (P := Try.prog) w1 wr.heap.size 22 22 22 3 ti (.int .i64 0) 1 8 Try.underlying22 hi0 hz0 hz1 hz2 rfl (by decide) _ 0 [] o1 _ _ _ hs1 (by unfold maxLen; omega) (by omega) k1.size
          have k2 := grownBy_kp gr2
          have k12 : Kp (fun _ => False) wr w2 := k1.trans k2 (fun b hb e => by
            have e' : some q = some b := e
            injection e' with e'
            have : wr.drew.heap.size = wr.heap.size := rfl
            omega)
          have or2 := ownsRow_keep HO3 k12 (fun _ _ e => e)
          have hd2 : ((ls.drop 0).take bb) = ls.take bb := by rw [List.drop_zero]
          have hln2 : (ls.take bb).length = bb := by rw [List.length_take]; omega
          have hs2 := src_part or2 0 bb cap
          rw [hd2, hln2] at hs2
          obtain ⟨v3, w3, hap2, ow3, gr3, bl3⟩ := run_append_own_src (P := Try.prog) w2 wr.heap.size 22 22 22 3 ti (.int .i64 0) 1 8 Try.underlying22 hi0 hz0 hz1 hz2 rfl (by decide) _ (0 + (n - bb)) _ ow2 _ _ _ hs2 (by unfold maxLen; omega) (by omega) k12.size
          have k3 := grownBy_kp gr3
          have k13 : Kp (fun _ => False) wr w3 := k12.trans k3 (fun b hb e => by have := (ownBlock_lt ow2 e).1; omega)
          have HFIN : Hid (Kp (fun _ => False) w w3 ∧ w3.ownsRow w.heap.size 3 1 v3 (trn zs seed).length ((trn zs seed).map encI)) := by
            refine ⟨HK.out.trans k13 (fun _ _ e => e), ?_⟩
            rw [hrot, List.length_append, hln1, hln2, List.map_append]
            rw [Nat.zero_add, List.nil_append] at ow3
            exact ownsRow_base ow3 HK.out.size
          have hne0 : ¬ ((n : Int) = 0) := by omega
          clear HO3 HO2 HO k1 k2 k3 k12 k13 kd o1 or1 or2 hs1 hs2 ow2 ow3 gr2 gr3 bl2 bl3 hd1 hd2 hln1 hln2 hrot hls hbb hn h0
          go_wp2
          refine tu_region ⟨by kernel_rfl, by kernel_rfl, by kernel_rfl, by kernel_rfl, by kernel_rfl, by kernel_rfl, by kernel_rfl, by kernel_rfl, by kernel_rfl, by kernel_rfl, by kernel_rfl, by kernel_rfl, by kernel_rfl, by kernel_rfl, by kernel_rfl, by kernel_rfl, by kernel_rfl, by kernel_rfl⟩ g n cap bb q v2 v3 w1 w2 w3 hbl hncap (fun d _ _ _ _ h => by cases d <;> exact h) (by rfl) (by rfl) (by rfl) hw1 hq hap1 hap2 ?_
          simp only [Act.put, List.setIfInBounds_toArray, List.set_cons_succ, List.set_cons_zero]
          go_wp2
          go_ret
          exact ⟨v3, rfl, HFIN.out⟩
end Go.Proofs.Ytneobpdbfbcnmaa
