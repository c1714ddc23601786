/- What was accepted: Votes. -/
import Derived.Test.YtippipeebkkghaaGreatDoorVof
namespace Go.Proofs.YtippipeebkkghaaGreatDoor
set_option linter.unusedVariables false
set_option linter.unusedSimpArgs false
open Go.RowKit Go.Deep Go.Maps

/-- votes of one's own -/
abbrev OwVo (w : World) (base : Nat) (v : Value) (l : List (Vo × Value)) : Prop := w.ownsRow base 59 14 v l.length (vflat l)

theorem wpList_app_vo {ops : Array Oper} {rest : List Oper} {op : Oper} {a : Act} {Q : Exit → Act → World → Prop} {B : Nat} {w0 : World} {v : Value} {l : List (Vo × Value)} (h : OwVo w0 B v l) (hB : B ≤ w0.heap.size) (y : Vo × Value) (hy : y.2.oneCell' = true) (hz : l.length ≤ 100000)
    (hgd : op.guard = none) (o1 o2 : Operand) (ho : op.op = .call { callee := .builtin .append, args := #[o1, o2], argTypes := #[36, 36] }) (h1 : a.eval o1 = v) (h2 : a.eval o2 = .slice (some ⟨w0.heap.size, 0, none⟩) 1 1)
    (hK : ∀ v' w3, OwVo w3 B v' (l ++ [y]) → Kp (fun b => v.ownBlock = some b) w0 w3 → wpList Tryz.prog ops Q rest (a.put op.dst v') w3) :
    wpList Tryz.prog ops Q (op :: rest) a (w0.alloc (.cells (vcell y.1 y.2).toArray 59)) := by
  obtain ⟨ti, tz, hi1, hi2, hi3, hi4, hi5⟩ := infoVote
  have ka : Kp (fun _ => False) w0 (w0.alloc (.cells (vcell y.1 y.2).toArray 59)) := (Kp.refl _ _).alloc _
  have hr := ownsRow_keep h ka (fun _ _ e => e)
  have hlv := Lv.new w0 (vcell y.1 y.2).toArray 59
  have h1c : ∀ u ∈ vcell y.1 y.2, u.oneCell' = true := by
    have := vcell_one y.1 (nv := y.2) hy
    intro u hu
    exact (Array.all_eq_true_iff_forall_mem.1 this) u (by simpa using hu)
  have hsz := ka.size
  refine wpList_append_own_src _ hgd o1 o2 36 36 ho B 59 ti tz 14 136 Tryz.underlying36 hi1 hi2 hi3 hi4 hi5 (by decide) v l.length (vflat l) h1 hr _ 1 (vcell y.1 y.2) h2 (Src.ofSlice _ Tryz.underlying36 ⟨w0.heap.size, 0, none⟩ 1 1 (vcell y.1 y.2) rfl (fun j u hj => by rw [Addr.add_mid, Nat.zero_add]; exact hlv.cell hj) h1c) (by unfold maxLen; omega) (by omega) (by omega) ?_
  intro v2 w3 hown hk hblk
  have k3 := grownBy_kp hk
  refine hK v2 w3 ?_ ((ka.mono (S' := fun b => v.ownBlock = some b) (fun _ _ e => e.elim)).trans k3 (fun _ _ e => e))
  unfold OwVo
  rw [List.length_append, vflat_append]
  have e : vflat [y] = vcell y.1 y.2 := by show vcell _ _ ++ [] = _; rw [List.append_nil]
  rw [e]
  exact hown
theorem Ow.cap9 {w : World} {B : Nat} {q : Option Addr} {n c : Nat} {xs : List Nat} (h : Ow w B (.slice q n c) xs) : c ≤ 9223372036854775807 := by
  rcases h.2 with h | ⟨b, cap, cells, e, _, _, _, hm, _⟩
  · obtain ⟨h, _⟩ := h
    injection h with _ _ h
    omega
  · injection e with _ _ e
    have hm : cap ≤ maxLen := hm
    unfold maxLen at hm
    omega

section
variable {w : World} {Z : Nat → Prop} {sh mp g : Nat} {h : List Rc} {hi : Nat} {V : Nat → Nat}

set_option maxRecDepth 100000 in
set_option maxHeartbeats 6400000 in
theorem votes_ok {ac : Nat} (x : Sk w Z sh mp g h) (hs : Hs h hi V) (hc : w.cell? ⟨ac, 0, none⟩ = some (.pointer (some ⟨sh, 0, none⟩))) (fr : Int) :
    Calls Tryz.prog 13 #[.pointer (some ⟨ac, 0, none⟩), .int .i64 fr] w fun e w' => ∃ v l ss, e = .returned v ∧ Kp (fun _ => False) w w' ∧ OwVo w' w.heap.size v l ∧ (∀ y ∈ l, y.2.oneCell' = true) ∧ l.map (·.1) = (fromL fr (ntsL (srt3 ss))).map (voV V) ∧ Ths h ss := by
  have HM : Hid (Calls _ _ _ w _) := vmade_ok hc
  have HNo : Hid (Calls _ _ _ w _) := snotes_ok x
  have HX : Hid (Sk w Z sh mp g h) := x
  have HH : Hid (Hs h hi V) := hs
  have HC : Hid (w.cell? ⟨ac, 0, none⟩ = some (.pointer (some ⟨sh, 0, none⟩))) := hc
  clear x hs
  go_enter Tryz.func13, Tryz.ntmps13
  go_wp2_with fail
  refine HM.out.mono ?_
  rintro e9 w9 ⟨rfl, hw9⟩
  have hw8 := hw9.symm
  subst hw8
  clear hw9 HM
  go_wp2_with fail
  refine HNo.out.mono ?_
  rintro e9 w2 ⟨v2, ss, rfl, k2, o2, hT⟩
  obtain ⟨zs, hzs⟩ : ∃ l, l = ntsL (srt3 ss) := ⟨_, rfl⟩
  rw [← hzs] at o2
  have HZs : Hid ((∀ z ∈ zs, InN hi V z) ∧ zs.length ≤ 6) := by
    obtain ⟨_, h2, h3⟩ := HH.out.nts hT
    rw [← hzs] at h2 h3
    exact ⟨fun z hz => (h2 z).1 hz, h3⟩
  obtain ⟨q, cq, rfl, hf⟩ := own_fl o2
  have HF : Hid (Fl w2 (fun b => w.heap.size ≤ b ∧ b < w2.heap.size) q (zs.map (Value.int .i64))) := hf
  have HT : Hid (Ths h ss ∧ zs = ntsL (srt3 ss) ∧ Kp (fun _ => False) w w2) := ⟨hT, hzs, k2⟩
  obtain ⟨n, hn⟩ : ∃ n, n = zs.length := ⟨_, rfl⟩
  have HN : Hid (n = zs.length) := hn
  have HX2 : Hid (Sk w2 Z sh mp g h) := HX.out.keep k2 id id (fun _ _ => id)
  have HC2 : Hid (w2.cell? ⟨ac, 0, none⟩ = some (.pointer (some ⟨sh, 0, none⟩))) := k2.cellv HC.out id
  rw [← hn]
  clear hT hzs o2 hf k2 hn HNo hc HX HC
  go_wp2_with fail
  go_loopg [5, 19] n (fun gk ov iv wr => ∃ (j : Nat) (v1 : Value), j ≤ n ∧ gk = n - j ∧ ov = v1 ∧ iv = .int .i64 (j : Int) ∧ Hid (Kp (fun _ => False) w2 wr ∧ ∃ l, OwVo wr w2.heap.size v1 l ∧ l.map (·.1) = (fromL fr (zs.take j)).map (voV V) ∧ ∀ y ∈ l, y.2.oneCell' = true))
  case atStart => exact ⟨0, _, Nat.zero_le _, rfl, rfl, rfl, Kp.refl _ _, [], World.ownsRow_nil _ _ _ _, rfl, fun y hy => absurd hy List.not_mem_nil⟩
  case round =>
    obtain ⟨j, v1, hj, rfl, hvv, rfl, HK⟩ := hrel
    have hv2 := hvv.symm
    subst hv2
    clear hvv
    by_cases hlt : j < n
    · have hlt2 : (j : Int) < (n : Int) := by omega
      have hjz : j < zs.length := by rw [← HN.out]; exact hlt
      obtain ⟨z, hz⟩ : ∃ z, z = zs[j] := ⟨_, rfl⟩
      obtain ⟨g0, o0, rfl, hg0, hc0⟩ := HF.out j (.int .i64 z) (by rw [List.getElem?_map, List.getElem?_eq_getElem hjz, hz]; rfl)
      have hin : InN hi V z := HZs.out.1 z (by rw [hz]; exact List.getElem_mem hjz)
      have HTk : Hid (fromL fr (zs.take (j + 1)) = fromL fr (zs.take j) ++ (if z ≠ 0 ∧ fr ≤ z then [z] else [])) := by
        show _ = _
        rw [List.take_add_one, List.getElem?_eq_getElem hjz, hz]
        exact fromL_snoc _ _ _
      have x0 := HK.out.1.cellv hc0 id
      have hw1 : wrap64 ((j : Int) + 1) = ((j + 1 : Nat) : Int) := by have := HZs.out.2; unfold wrap64; omega
      have HJ : Hid (j < n) := hlt
      clear hg0 hc0 hz hjz hlt
      by_cases hz0 : z = 0
      · subst hz0
        have HS : Hid (fromL fr (zs.take (j + 1)) = fromL fr (zs.take j)) := by
          show _ = _
          rw [HTk.out, if_neg (fun e => e.1 rfl), List.append_nil]
        clear HTk hin
        go_wp2_with fail
        go_roundg (n - (j + 1))
        case rel => exact ⟨j + 1, v1, HJ.out, rfl, rfl, by first | rw [hw1] | simp, HK.out.1, by rw [HS.out]; exact HK.out.2⟩
        case measure => exact Nat.sub_lt_sub_left HJ.out (Nat.lt_succ_self j)
      · have hz0' : (z == 0) = false := by simpa using hz0
        by_cases hzf : z < fr
        · have HS : Hid (fromL fr (zs.take (j + 1)) = fromL fr (zs.take j)) := by
            show _ = _
            rw [HTk.out, if_neg (fun e => by have := e.2; omega), List.append_nil]
          clear HTk hin
          go_wp2_with fail
          go_roundg (n - (j + 1))
          case rel => exact ⟨j + 1, v1, HJ.out, rfl, rfl, by first | rw [hw1] | simp, HK.out.1, by rw [HS.out]; exact HK.out.2⟩
          case measure => exact Nat.sub_lt_sub_left HJ.out (Nat.lt_succ_self j)
        · have hz5 : 1 ≤ z ∧ z ≤ 5 ∧ V z.toNat ≠ 0 := by
            rcases hin with e | e
            · exact absurd e.1 hz0
            · exact e
          obtain ⟨s, hs⟩ : ∃ s : Nat, z = (s : Int) := ⟨z.toNat, by omega⟩
          subst hs
          have hsN : ((s : Int)).toNat = s := by omega
          rw [hsN] at hz5
          obtain ⟨b, hb⟩ : ∃ b, b = V s := ⟨_, rfl⟩
          have HB : Hid (b = V s ∧ 1 ≤ b ∧ b ≤ 20 ∧ 1 ≤ s ∧ s ≤ 5) := ⟨hb, by omega, by rw [hb]; exact HH.out.v20 s, by omega, by omega⟩
          have HS : Hid (fromL fr (zs.take (j + 1)) = fromL fr (zs.take j) ++ [(s : Int)]) := by
            show _ = _
            rw [HTk.out, if_pos ⟨hz0, by omega⟩]
          have HNt : Hid (Calls _ _ _ wr _) := r8noted_ok (HX2.out.keep HK.out.1 id id (fun _ _ => id)) s (by omega)
          have HAt : Hid (ntd h s = votB b) := by
            show _ = _
            rw [hb]
            exact HH.out.atS ⟨by omega, by omega⟩ hz5.2.2
          have y0 := HK.out.1.cellv HC2.out id
          clear hz5 hsN hb hin HTk
          go_wp2_with fail
          refine HNt.out.mono ?_
          rintro e9 w3 ⟨v3, rfl, k3, o3, hb3⟩
          rw [HAt.out] at o3 hb3
          obtain ⟨q3, c3, rfl, hc3, hr3, _⟩ := o3.rb hb3
          have HRV : Hid (Calls _ _ _ w3 _) := readVote_ok (s : Int) q3 _ c3 b w3 hr3 hc3 ⟨HB.out.2.1, HB.out.2.2.1⟩ o3.cap9
          have HK3 : Hid (Kp (fun _ => False) w2 w3 ∧ ∃ l, OwVo w3 w2.heap.size v1 l ∧ l.map (·.1) = (fromL fr (zs.take j)).map (voV V) ∧ ∀ y ∈ l, y.2.oneCell' = true) := ⟨HK.out.1.trans k3 (fun _ _ e => e), by
            obtain ⟨l, h1, h2⟩ := HK.out.2
            exact ⟨l, ownsRow_keep h1 k3 (fun _ _ e => e), h2⟩⟩
          clear k3 o3 hb3 hc3 hr3 HNt HAt HK x0 y0
          go_wp2_with fail
          refine HRV.out.mono ?_
          rintro e9 w4 ⟨q4, cap4, rfl, k4⟩
          have HK4 : Hid (Kp (fun _ => False) w2 w4 ∧ ∃ l, OwVo w4 w2.heap.size v1 l ∧ l.map (·.1) = (fromL fr (zs.take j)).map (voV V) ∧ ∀ y ∈ l, y.2.oneCell' = true) := ⟨HK3.out.1.trans k4 (fun _ _ e => e), by
            obtain ⟨l, h1, h2⟩ := HK3.out.2
            exact ⟨l, ownsRow_keep h1 k4 (fun _ _ e => e), h2⟩⟩
          have HOv : Hid ((vcell (voI (s : Int) b) (.slice q4 0 cap4)).toArray.all (·.oneCell') = true) := vcell_one _ rfl
          clear k4 HRV HK3
          go_upto_region 9 with (refine wpList_store_all rfl 59 _ _ rfl 14 w4.heap.size zeroVo.toList (vcell (voI (s : Int) b) (.slice q4 0 cap4)) rfl rfl (Lv.new w4 _ _) szVote rfl rfl HOv.out ?_; intro w5 hl5 k5)
          have ka : Kp (fun _ => False) w4 (w4.alloc (.cells zeroVo 59)) := (Kp.refl _ _).alloc _
          have HL5 : Hid (Lv w5 w4.heap.size (vcell (voI (s : Int) b) (.slice q4 0 cap4))) := hl5
          have HK5 : Hid (Kp (fun _ => False) w2 w5 ∧ w2.heap.size ≤ w5.heap.size ∧ ∃ l, OwVo w5 w2.heap.size v1 l ∧ l.map (·.1) = (fromL fr (zs.take j)).map (voV V) ∧ ∀ y ∈ l, y.2.oneCell' = true) := by
            have hk : Kp (fun _ => False) w2 w5 := (HK4.out.1.trans ka (fun _ _ e => e)).trans k5 (fun b9 hb e => by have e' : b9 = w4.heap.size := e; have := HK4.out.1.size; omega)
            refine ⟨hk, hk.size, ?_⟩
            obtain ⟨l, h1, h2⟩ := HK4.out.2
            refine ⟨l, ownsRow_keep (ownsRow_keep h1 ka (fun _ _ e => e)) k5 (fun b9 hb e => ?_), h2⟩
            have e' : b9 = w4.heap.size := e
            have := (ownBlock_lt h1 hb).2
            omega
          obtain ⟨g4, hg4⟩ : ∃ y, y = w4.heap.size := ⟨_, rfl⟩
          rw [← hg4] at HL5
          rw [← hg4]
          clear hl5 k5 ka HK4 hg4
          obtain ⟨l, hl1, hl2⟩ := HK5.out.2.2
          have HOl : Hid (OwVo w5 w2.heap.size v1 l ∧ l.length ≤ 100000) := ⟨hl1, by
            have h9 := congrArg List.length hl2.1
            rw [List.length_map, List.length_map] at h9
            have h8 : (fromL fr (zs.take j)).length ≤ (zs.take j).length := List.length_filter_le _ _
            rw [List.length_take] at h8
            have := HZs.out.2
            omega⟩
          have HLm : Hid (l.map (·.1) = (fromL fr (zs.take j)).map (voV V)) := hl2.1
          have HLo : Hid (∀ y ∈ l, y.2.oneCell' = true) := hl2.2
          clear hl1 hl2
          go_wp2_with (first
            | (refine wpList_load_all rfl 59 _ rfl 14 g4 (vcell (voI (s : Int) b) (.slice q4 0 cap4)) rfl HL5.out dsVote szVote rfl ?_)
            | (at_builtin; refine wpList_app_vo HOl.out.1 HK5.out.2.1 (voI (s : Int) b, .slice q4 0 cap4) rfl HOl.out.2 rfl _ _ rfl rfl rfl ?_; intro v6 w6 o6 k6))
          have HF6 : Hid (Kp (fun _ => False) w2 w6 ∧ ∃ l, OwVo w6 w2.heap.size v6 l ∧ l.map (·.1) = (fromL fr (zs.take (j + 1))).map (voV V) ∧ ∀ y ∈ l, y.2.oneCell' = true) := by
            refine ⟨HK5.out.1.trans k6 (fun b9 hb e => by have := (ownBlock_lt HOl.out.1 e).1; omega), _, o6, ?_, fun y hy => by
              rcases List.mem_append.1 hy with hy | hy
              · exact HLo.out y hy
              · rw [List.mem_singleton.1 hy]; rfl⟩
            rw [HS.out, List.map_append, List.map_append, HLm.out]
            show _ ++ [voI (s : Int) b] = _ ++ [voV V (s : Int)]
            unfold voV
            have hsN : ((s : Int)).toNat = s := by omega
            rw [hsN, HB.out.1]
          clear o6 k6 HOl HLm HK5 HL5
          go_roundg (n - (j + 1))
          case rel => exact ⟨j + 1, v6, HJ.out, rfl, rfl, by first | rw [hw1] | simp, HF6.out⟩
          case measure => exact Nat.sub_lt_sub_left HJ.out (Nat.lt_succ_self j)
    · have hjn : j = n := by omega
      subst hjn
      have hlt2 : ¬ ((j : Int) < (j : Int)) := by omega
      have HE : Hid (Kp (fun _ => False) w wr ∧ ∃ l, OwVo wr w.heap.size v1 l ∧ l.map (·.1) = (fromL fr (ntsL (srt3 ss))).map (voV V) ∧ ∀ y ∈ l, y.2.oneCell' = true) := by
        refine ⟨HT.out.2.2.trans HK.out.1 (fun _ _ e => e), ?_⟩
        obtain ⟨l, h1, h2⟩ := HK.out.2
        rw [List.take_of_length_le (Nat.le_of_eq HN.out.symm), HT.out.2.1] at h2
        exact ⟨l, ownsRow_base h1 HT.out.2.2.size, h2⟩
      clear HK HF HX2 HC2
      go_wp2
      go_ret
      obtain ⟨h1, l, h2, h3, h4⟩ := HE.out
      exact ⟨v1, rfl, h1, l, h2, fun a b hb => h4 (a, b) hb, ss, h3, HT.out.1⟩
end
end Go.Proofs.YtippipeebkkghaaGreatDoor
