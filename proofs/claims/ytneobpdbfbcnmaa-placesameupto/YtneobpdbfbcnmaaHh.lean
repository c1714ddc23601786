/- Nodes of a list, as a set; rising; loads. -/
import Derived.Test.YtneobpdbfbcnmaaHg
namespace Go.Proofs.Ytneobpdbfbcnmaa
set_option linter.unusedVariables false
open Go.RowKit Go.Deep

abbrev boolsV (l : List Bool) : List Value := l.map Value.bool
/-- the set of a list -/
def setOf (zs : List Int) : List Bool := (List.range 16).map (fun i : Nat => decide ((i : Int) ∈ zs))
theorem setOf_len (zs : List Int) : (setOf zs).length = 16 := by unfold setOf; simp
theorem List.set_eq_take_append_cons_drop' {l : List Value} {n : Nat} {v : Value} (h : n < l.length) : l.set n v = l.take n ++ [v] ++ l.drop (n + 1) := by
  rw [List.set_eq_take_append_cons_drop, if_pos h, List.append_assoc]; rfl
theorem szN : (Try.prog.info? 44).map (·.size) = some 16 := by kernel_rfl
theorem dsN : ∃ d, Try.prog.underlying 44 = some d ∧ d.isRow = true := ⟨_, Try.underlying44, rfl⟩
theorem boolsV_one (l : List Bool) : (boolsV l).toArray.all (·.oneCell') = true := all_oneCell_toArray (fun x hx => by obtain ⟨b, _, rfl⟩ := List.mem_map.1 hx; rfl)
theorem setOf_nil : setOf [] = List.replicate 16 false := by decide
theorem setOf_out {zs : List Int} {z : Int} (h : ¬ (0 ≤ z ∧ z < 16)) : setOf (zs ++ [z]) = setOf zs := by
  unfold setOf
  refine List.map_congr_left (fun i hi => ?_)
  rw [List.mem_range] at hi
  simp only [List.mem_append, List.mem_singleton]
  have : ¬ ((i : Int) = z) := by omega
  simp [this]
theorem setOf_in {zs : List Int} {n : Nat} (h : n < 16) : setOf (zs ++ [(n : Int)]) = (setOf zs).set n true := by
  unfold setOf
  refine List.ext_getElem (by simp) (fun i h1 h2 => ?_)
  rw [List.getElem_set]
  simp only [List.getElem_map, List.getElem_range, List.mem_append, List.mem_singleton]
  by_cases e : n = i
  · rw [if_pos e]; simp [e]
  · rw [if_neg e]
    have : ¬ ((i : Int) = (n : Int)) := by omega
    simp [this]

set_option maxRecDepth 100000 in
set_option maxHeartbeats 1600000 in
theorem nodesOf_ok (Z : Nat → Prop) (p : Option Addr) (c : Nat) (zs : List Int) (w : World) (h : Fl w Z p (zs.map encI)) (hl : Hid (zs.length * 8 ≤ 140737488355328)) :
    Calls Try.prog 18 #[.slice p zs.length c] w fun e w' => e = .returned (.agg (boolsV (setOf zs)).toArray) ∧ Kp (fun _ => False) w w' := by
  obtain ⟨L, hL⟩ : ∃ L, L = zs.length := ⟨_, rfl⟩
  have HL : Hid (L = zs.length) := hL
  have HK : Hid (L * 8 ≤ 140737488355328) := by rw [hL]; exact hl
  rw [← hL]
  have HF : Hid (Fl w Z p (zs.map encI)) := h
  obtain ⟨bs, hbs⟩ : ∃ bs, bs = boolsV (setOf zs) := ⟨_, rfl⟩
  have HBs : Hid (bs = boolsV (setOf zs)) := hbs
  rw [← hbs]
  clear h hL hl hbs
  go_enter Try.func18, Try.ntmps18
  go_wp2
  obtain ⟨zb, hzb⟩ : ∃ zb, zb = boolsV (List.replicate 16 false) := ⟨_, rfl⟩
  obtain ⟨u, hu⟩ : ∃ x, x = (w.alloc (.cells zb.toArray 44)).alloc (.cells zb.toArray 44) := ⟨_, rfl⟩
  have z1 : (w.alloc (.cells zb.toArray 44)).heap.size = w.heap.size + 1 := by simp
  have HL1 : Hid (Lv u w.heap.size zb) := by rw [hu]; exact (Lv.new w zb.toArray _).keep ((Kp.refl (fun _ => False) _).alloc _) id
  have HL2 : Hid (Lv u (w.heap.size + 1) (boolsV (setOf []))) := by rw [setOf_nil, ← hzb, hu, ← z1]; exact Lv.new _ zb.toArray _
  have k0 : Kp (fun _ => False) w u := by rw [hu]; exact ((Kp.refl _ _).alloc _).alloc _
  have e0 := hu.symm
  rw [hzb] at e0
  simp only [boolsV, List.replicate, List.map_cons, List.map_nil] at e0
  rw [e0]
  clear e0 z1
  obtain ⟨r, hr⟩ : ∃ r, r = w.heap.size := ⟨_, rfl⟩
  obtain ⟨g, hg⟩ : ∃ g, g = w.heap.size + 1 := ⟨_, rfl⟩
  rw [← hg] at HL2 ⊢
  rw [← hr] at HL1 ⊢
  have HG : Hid (w.heap.size ≤ r ∧ w.heap.size ≤ g ∧ r ≠ g ∧ zb.length = 16) := by show _ ∧ _; refine ⟨by omega, by omega, by omega, by rw [hzb]; rfl⟩
  clear hr hg hu hzb
  go_loopg [8] L (fun gk iv wr => ∃ k : Nat, k ≤ L ∧ gk = L - k ∧ iv = .int .i64 k ∧ Hid (Kp (fun _ => False) w wr) ∧ Hid (Lv wr r zb) ∧ Hid (Lv wr g (boolsV (setOf (zs.take k)))))
  case atStart => exact ⟨0, Nat.zero_le _, rfl, rfl, k0, HL1, HL2⟩
  case round =>
    obtain ⟨k, hk, rfl, rfl, HKr, HLr, HLg⟩ := hrel
    by_cases hlt : (k : Int) < (L : Int)
    · have hkl : k < zs.length := by have := HL.out; omega
      have hge : (zs.map encI)[k]? = some (encI zs[k]) := by rw [List.getElem?_map, List.getElem?_eq_getElem hkl]; rfl
      obtain ⟨b1, o1, rfl, _, e1⟩ := (HF.out.keep HKr.out (fun _ _ => id)) k _ hge
      obtain ⟨z, hz⟩ : ∃ z, z = zs[k] := ⟨_, rfl⟩
      rw [← hz] at e1
      have HT : Hid (zs.take (k + 1) = zs.take k ++ [z]) := by show _ = _; rw [hz, List.take_succ_eq_append_getElem hkl]
      have HW : Hid (wrap64 ((k : Int) + 1) = ((k + 1 : Nat) : Int)) := by show _ = _; have := HK.out; unfold wrap64; omega
      clear hge hz hkl
      by_cases h0 : 0 ≤ z
      · by_cases h16 : z < 16
        · obtain ⟨n, rfl⟩ : ∃ n : Nat, z = (n : Int) := ⟨z.toNat, by omega⟩
          have hnl : n < (boolsV (setOf (zs.take k))).length := by rw [List.length_map, setOf_len]; omega
          have c1 : wr.cell? ⟨g, n, none⟩ = some (boolsV (setOf (zs.take k)))[n] := HLg.out.cell (List.getElem?_eq_getElem hnl)
          have f1 : wr.frozen? ⟨g, n, none⟩ = false := HLg.out.fz hnl
          have ks : Kp (fun b => b = g) wr (wr.setCell ⟨g, n, none⟩ (.bool true)) := (Kp.refl (fun b => b = g) wr).setCell (fun _ => rfl) _
          have HL3 : Hid (Lv (wr.setCell ⟨g, n, none⟩ (.bool true)) g (boolsV (setOf (zs.take (k + 1))))) := by
            have h3 := HLg.out.set1 n (.bool true) hnl
            rw [← List.set_eq_take_append_cons_drop' hnl] at h3
            rw [HT.out, setOf_in (by omega)]
            unfold boolsV at h3 ⊢
            rw [List.map_set]
            exact h3
          have HL4 : Hid (Lv (wr.setCell ⟨g, n, none⟩ (.bool true)) r zb) := HLr.out.keep ks (by have := HG.out; omega)
          have HK4 : Hid (Kp (fun _ => False) w (wr.setCell ⟨g, n, none⟩ (.bool true))) := HKr.out.trans ks (fun b hb e => by have := HG.out; omega)
          obtain ⟨vv, hvv⟩ : ∃ vv, vv = (boolsV (setOf (zs.take k)))[n] := ⟨_, rfl⟩
          rw [← hvv] at c1
          have h16' : (n : Int) < 16 := h16
          clear hnl ks hvv
          go_wp2
          go_roundg (L - (k + 1))
          case rel => exact ⟨k + 1, by omega, rfl, by rw [HW.out], HK4, HL4, HL3⟩
          case measure => omega
        · have HL3 : Hid (Lv wr g (boolsV (setOf (zs.take (k + 1))))) := by rw [HT.out, setOf_out (by omega)]; exact HLg.out
          go_wp2
          go_roundg (L - (k + 1))
          case rel => exact ⟨k + 1, by omega, rfl, by rw [HW.out], HKr, HLr, HL3⟩
          case measure => omega
      · have HL3 : Hid (Lv wr g (boolsV (setOf (zs.take (k + 1))))) := by rw [HT.out, setOf_out (by omega)]; exact HLg.out
        go_wp2
        go_roundg (L - (k + 1))
        case rel => exact ⟨k + 1, by omega, rfl, by rw [HW.out], HKr, HLr, HL3⟩
        case measure => omega
    · have hbs := HBs.out
      have HB : Hid (bs.length = 16 ∧ bs.toArray.all (·.oneCell') = true) := ⟨by rw [hbs, List.length_map, setOf_len], by rw [hbs]; exact boolsV_one _⟩
      have HL3 : Hid (Lv wr g bs) := by
        have h3 := HLg.out
        rw [List.take_of_length_le (by have := HL.out; omega), ← hbs] at h3
        exact h3
      clear hbs
      go_wp2_with (first
        | (refine wpList_load_all rfl 44 _ rfl 16 g bs rfl HL3.out dsN szN HB.out.1 ?_)
        | (refine wpList_store_all rfl 44 _ _ rfl 16 r zb bs rfl rfl HLr.out szN HG.out.2.2.2 HB.out.1 HB.out.2 ?_; intro w4 hl4 k4))
      refine bodyPost_ret (res_cell Try.results18 _ _ r _ rfl (hl4.load dsN szN HB.out.1)) rfl ?_
      exact ⟨rfl, HKr.out.trans k4 (fun b hb e => by have := HG.out; omega)⟩
end Go.Proofs.Ytneobpdbfbcnmaa
