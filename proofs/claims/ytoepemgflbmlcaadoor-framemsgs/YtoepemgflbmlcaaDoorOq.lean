/- FrameCmds. -/
import Derived.Test.YtoepemgflbmlcaaDoorOo
import Derived.Test.YtoepemgflbmlcaaDoorOm
import Derived.Test.YtoepemgflbmlcaaDoorOp
import Derived.Test.YtoepemgflbmlcaaDoorQx
import Derived.Test.YtoepemgflbmlcaaDoorLfw1
namespace Go.Proofs.YtoepemgflbmlcaaDoor
set_option linter.unusedVariables false
set_option linter.unusedSimpArgs false
open Go.RowKit Go.Deep

theorem keyB_byte (k : ByteArray) : ∀ x ∈ keyB k, x < 256 := fun x hx => by
  unfold keyB at hx
  obtain ⟨b, _, rfl⟩ := List.mem_map.1 hx
  exact b.toNat_lt
theorem numsB_byte {l : List Nat} (h : ∀ n ∈ l, n < 9223372036854775808) : ∀ x ∈ numsB l, x < 256 := fun x hx => by
  unfold numsB at hx
  obtain ⟨y, hy, hxy⟩ := List.mem_flatMap.1 hx
  exact numB_byte (h y hy) x hxy
theorem cmdB_byte {c : Cs0} {zs : List Int} (h : mayC c zs = true) (hs : 0 ≤ c.sum ∧ c.sum < 4294967296) : ∀ x ∈ cmdB (cpOf c zs), x < 256 := by
  have hF := mayC_full h
  have hn := hF.n
  simp only [List.mem_cons, List.not_mem_nil, or_false, forall_eq_or_imp, forall_eq] at hn
  have hk := hF.key
  have hl := hF.len
  intro x hx
  unfold cmdB at hx
  rcases List.mem_append.1 hx with hx | hx
  · refine numsB_byte (fun n hn2 => ?_) x hx
    simp only [cpOf, List.mem_cons, List.not_mem_nil, or_false] at hn2
    rw [keyB_len] at hn2
    omega
  · rcases List.mem_append.1 hx with hx | hx
    · exact keyB_byte c.key x hx
    · rcases List.mem_append.1 hx with hx | hx
      · refine numB_byte ?_ x hx
        show (zs.map Int.toNat).length < _
        rw [List.length_map]
        omega
      · refine numsB_byte (fun n hn2 => ?_) x hx
        obtain ⟨z, hz, rfl⟩ := List.mem_map.1 (show n ∈ zs.map Int.toNat from hn2)
        have := hF.z z hz
        omega
/-- a command's bytes and the error, plain -/
def cmdR (c : Cs0) (zs : List Int) : List Nat × Int := if mayC c zs = true then (cmdB (cpOf c zs), 0) else ([], 1)
theorem CmdRes.norm {c : Cs0} {zs : List Int} {w : World} {e : Ending} {w' : World} (h : CmdRes c zs w e w') (hs : 0 ≤ c.sum ∧ c.sum < 4294967296) : ∃ q m cap, e = .returned (.tuple #[.slice q m cap, .int .i64 (cmdR c zs).2]) ∧ Rb w' q m (cmdR c zs).1 ∧ m ≤ cap := by
  unfold CmdRes at h
  unfold cmdR
  by_cases hm : mayC c zs = true
  · rw [if_pos hm] at h ⊢
    obtain ⟨v, he, ho⟩ := h
    obtain ⟨q, cap, hv, hmc, hr, _⟩ := ho.rb (cmdB_byte hm hs)
    exact ⟨q, _, cap, by rw [he, hv], hr, hmc⟩
  · rw [if_neg hm] at h ⊢
    exact ⟨none, 0, 0, h, Rb.nil _ _, Nat.le_refl _⟩
/-- the command of bytes and the error, plain -/
def atR (xs : List Nat) : Cs0 × List Int × Int := match okC xs with
  | some c => (csOf c, intsOf c.nodes, 0)
  | none => (⟨0, 0, ⟨#[]⟩, 0, 0, 0, 0, 0, 0, 0, 0⟩, [], 51)
theorem AtRes.norm {xs : List Nat} {w : World} {e : Ending} {w' : World} (hb : ∀ x ∈ xs, x < 256) (h : AtRes xs w e w') : ∃ q cap, e = .returned (.tuple #[.agg (cmdA (atR xs).1 (.slice q (atR xs).2.1.length cap)), .int .i64 (atR xs).2.2]) ∧ Fl w' (fun _ => True) q ((atR xs).2.1.map encI) ∧ Hid ((atR xs).2.1.length * 8 ≤ 140737488355328) := by
  unfold AtRes at h
  unfold atR
  cases hm : okC xs with
  | none =>
    rw [hm] at h
    exact ⟨none, 0, h, fun j u hu => (by cases hu), by show _ ≤ _; simp⟩
  | some c =>
    rw [hm] at h
    obtain ⟨q, cap, he, hf⟩ := h
    have hl : (intsOf c.nodes).length = c.nodes.length := by unfold intsOf; rw [List.length_map]
    refine ⟨q, cap, ?_, hf.mono (fun _ _ => trivial), ?_⟩
    · show e = .returned (.tuple #[.agg (cmdA (csOf c) (.slice q (intsOf c.nodes).length cap)), .int .i64 0])
      rw [hl]
      exact he
    · have h9 : c.nodes.length ≤ 255 := by
        unfold okC at hm
        obtain ⟨⟨c', t⟩, h1, h2⟩ := Option.bind_eq_some_iff.1 hm
        have := (rdCmd_back hb h1).2.1
        dsimp only at h2
        split at h2
        · injection h2 with h2
          subst h2
          exact this.l
        · cases h2
      show (intsOf c.nodes).length * 8 ≤ _
      omega

set_option maxRecDepth 100000 in
set_option maxHeartbeats 3200000 in
theorem frameCmds_walk (cs : Array Value) (p : Option Addr) (n cap : Nat) (xs : List Nat) (w : World) (hc : CmdG w cs) (h : Rb w p n xs) (hnc : n ≤ cap) (hcap : Hid (cap ≤ 140737488355328)) (ht : Turns w) :
    Calls Tryd.prog 3 #[.agg cs, .slice p n cap] w fun e w' => e = .returned (.bool true) ∧ Kp (fun _ => False) w w' := by
  obtain ⟨c, pc, cp, zs, rfl, hfl, hzl, hg1, hg2, hg3⟩ := hc
  have HC1 : Hid (∀ u, Kp (fun _ => False) w u → Calls Tryd.prog 7 #[.agg (cmdA c (.slice pc zs.length cp))] u fun e w' => CmdRes c zs u e w' ∧ Kp (fun _ => False) u w') := fun u k => fcmd_ok c _ pc zs.length cp zs u (hfl.keep k (fun _ _ => id)) (fun b hb => Nat.lt_of_lt_of_le hb k.size) rfl (by omega) hg3 ⟨hg1, hg2⟩
  have HC2 : Hid (∀ u, Kp (fun _ => False) w u → Calls Tryd.prog 8 #[.agg (cmdA c (.slice pc zs.length cp))] u fun e w' => CmdRes c zs u e w' ∧ Kp (fun _ => False) u w') := fun u k => xcmdw_ok c _ pc zs.length cp zs u (hfl.keep k (fun _ _ => id)) (fun b hb => Nat.lt_of_lt_of_le hb k.size) rfl (by omega) hg3 ⟨hg1, hg2⟩
  have HR1 : Hid (∀ u, Kp (fun _ => False) w u → Calls Tryd.prog 9 #[.slice p n cap] u fun e w' => AtRes xs u e w' ∧ Kp (fun _ => False) u w') := fun u k => readcmd_ok p n cap xs u (h.keep0 k) hnc (by have := hcap.out; omega)
  have HR2 : Hid (∀ u, Kp (fun _ => False) w u → Calls Tryd.prog 10 #[.slice p n cap] u fun e w' => AtRes xs u e w' ∧ Kp (fun _ => False) u w') := fun u k => xreadcmd_ok p n cap xs u (h.keep0 k) hnc (by have := hcap.out; omega)
  have HW : Hid (∀ u, Kp (fun _ => False) w u → Calls Tryd.prog 13 #[.slice none 0 0] u fun e w' => e = .returned (.bool true) ∧ Kp (fun _ => False) u w') := fun u k => frameWraps_walk none 0 0 [] u (Rb.nil _ _) (Nat.le_refl _) (Nat.zero_le _) (ht.keep0 k)
  have HB : Hid (∀ x ∈ xs, x < 256) := h.byte
  have HS : Hid (0 ≤ c.sum ∧ c.sum < 4294967296) := ⟨hg1, hg2⟩
  have HK0 : Hid (Kp (fun _ => False) w (w.alloc (.cells (cmdA c (.slice pc zs.length cp)) 27))) := (Kp.refl _ _).alloc _
  have HL0 : Hid (Lv (w.alloc (.cells (cmdA c (.slice pc zs.length cp)) 27)) w.heap.size (cmdA c (.slice pc zs.length cp)).toList) := Lv.new w _ _
  obtain ⟨xa, hxa⟩ : ∃ x, x = cmdA c (.slice pc zs.length cp) := ⟨_, rfl⟩
  have HXl : Hid (xa.toList.length = 12) := by rw [hxa]; rfl
  rw [← hxa] at HC1 HC2 HK0 HL0 ⊢
  clear hfl hzl hg1 hg2 hg3 h hnc hcap ht hxa
  obtain ⟨dC, hdC, hdR⟩ := dsCmd
  go_enter Tryd.func3, Tryd.ntmps3
  go_upto_region 1 with fail
  obtain ⟨u0, hu0⟩ : ∃ x, x = w.alloc (.cells xa 27) := ⟨_, rfl⟩
  rw [← hu0] at HK0 HL0 ⊢
  clear hu0
  go_wp2_with (refine wpList_load_all rfl 27 _ rfl 12 w.heap.size xa.toList rfl HL0.out ⟨dC, hdC, hdR⟩ szCmd HXl.out ?_; rw [Array.toArray_toList])
  refine (HC1.out u0 HK0.out).mono ?_
  rintro e9 w1 ⟨hr, k1⟩
  obtain ⟨q1, m1, c1, rfl, b1, _⟩ := hr.norm HS.out
  have HK1 : Hid (Kp (fun _ => False) w w1) := HK0.out.trans k1 (fun _ _ e => e)
  have HL1 : Hid (Lv w1 w.heap.size xa.toList) := HL0.out.keep k1 id
  have HB1 : Hid (Rb w1 q1 m1 (cmdR c zs).1) := b1
  clear k1 b1 hr
  obtain ⟨rb, hrb⟩ : ∃ x, x = (cmdR c zs).1 := ⟨_, rfl⟩
  obtain ⟨re, hre⟩ : ∃ x, x = (cmdR c zs).2 := ⟨_, rfl⟩
  rw [← hrb] at HB1
  rw [← hre]
  go_wp2_with (refine wpList_load_all rfl 27 _ rfl 12 w.heap.size xa.toList rfl HL1.out ⟨dC, hdC, hdR⟩ szCmd HXl.out ?_; rw [Array.toArray_toList])
  refine (HC2.out w1 HK1.out).mono ?_
  rintro e9 w2 ⟨hr, k2⟩
  obtain ⟨q2, m2, c2, rfl, b2, _⟩ := hr.norm HS.out
  rw [← hrb] at b2
  rw [← hre]
  have HK2 : Hid (Kp (fun _ => False) w w2) := HK1.out.trans k2 (fun _ _ e => e)
  have HB2 : Hid (Rb w2 q1 m1 rb ∧ Rb w2 q2 m2 rb) := ⟨HB1.out.keep0 k2, b2⟩
  clear k2 b2 hr hrb hre HL1 HB1
  go_wp2_with fail
  refine (HR1.out w2 HK2.out).mono ?_
  rintro e9 w3 ⟨hr, k3⟩
  obtain ⟨q3, c3, rfl, f3, l3⟩ := hr.norm HB.out
  obtain ⟨A, hA⟩ : ∃ x, x = atR xs := ⟨_, rfl⟩
  rw [← hA] at f3 l3 ⊢
  have HA : Hid (A = atR xs) := hA
  obtain ⟨xb, hxb⟩ : ∃ x, x = cmdA A.1 (.slice q3 A.2.1.length c3) := ⟨_, rfl⟩
  have HXb : Hid (xb = cmdA A.1 (.slice q3 A.2.1.length c3)) := hxb
  have HXbl : Hid (xb.toList.length = 12) := by rw [hxb]; rfl
  have HXb1 : Hid (xb.toList.toArray.all (·.oneCell') = true) := by rw [hxb]; exact cmd_one _ rfl
  rw [← hxb]
  have HK3 : Hid (Kp (fun _ => False) w w3) := HK2.out.trans k3 (fun _ _ e => e)
  have HB3 : Hid (Rb w3 q1 m1 rb ∧ Rb w3 q2 m2 rb) := ⟨HB2.out.1.keep0 k3, HB2.out.2.keep0 k3⟩
  have HF3 : Hid (Fl w3 (fun _ => True) q3 (A.2.1.map encI)) := f3
  have HLn : Hid (A.2.1.length * 8 ≤ 140737488355328) := l3
  clear k3 f3 l3 hr hA hxb HB2
  obtain ⟨ae, hae⟩ : ∃ x, x = A.2.2 := ⟨_, rfl⟩
  rw [← hae]
  go_upto_region 4 with (refine wpList_store_all rfl 27 _ _ rfl 12 w3.heap.size zeroC.toList xb.toList rfl (by rw [Array.toArray_toList]; rfl) (by exact Lv.new w3 _ _) szCmd rfl HXbl.out HXb1.out ?_; intro w4 hl4 k4)
  have k34 : Kp (fun _ => False) w3 w4 := ((Kp.refl (fun _ => False) w3).alloc (.cells zeroC 27)).trans k4 (fun b hb e => by omega)
  obtain ⟨g, hg⟩ : ∃ x, x = w3.heap.size := ⟨_, rfl⟩
  rw [← hg] at hl4 ⊢
  have HK4 : Hid (Kp (fun _ => False) w w4) := HK3.out.trans k34 (fun _ _ e => e)
  have HL4 : Hid (Lv w4 g xb.toList) := hl4
  have HB4 : Hid (Rb w4 q1 m1 rb ∧ Rb w4 q2 m2 rb) := ⟨HB3.out.1.keep0 k34, HB3.out.2.keep0 k34⟩
  have HF4 : Hid (Fl w4 (fun _ => True) q3 (A.2.1.map encI)) := HF3.out.keep k34 (fun _ _ => id)
  clear k4 k34 hl4 hg HB3 HF3
  go_wp2_with fail
  refine (HR2.out w4 HK4.out).mono ?_
  rintro e9 w5 ⟨hr, k5⟩
  obtain ⟨q5, c5, rfl, f5, l5⟩ := hr.norm HB.out
  rw [← HA.out] at f5 ⊢
  obtain ⟨xc, hxc⟩ : ∃ x, x = cmdA A.1 (.slice q5 A.2.1.length c5) := ⟨_, rfl⟩
  have HXc : Hid (xc = cmdA A.1 (.slice q5 A.2.1.length c5)) := hxc
  have HXcl : Hid (xc.toList.length = 12) := by rw [hxc]; rfl
  have HXc1 : Hid (xc.toList.toArray.all (·.oneCell') = true) := by rw [hxc]; exact cmd_one _ rfl
  rw [← hxc, ← hae]
  have HK5 : Hid (Kp (fun _ => False) w w5) := HK4.out.trans k5 (fun _ _ e => e)
  have HL5 : Hid (Lv w5 g xb.toList) := HL4.out.keep k5 id
  have HB5 : Hid (Rb w5 q1 m1 rb ∧ Rb w5 q2 m2 rb) := ⟨HB4.out.1.keep0 k5, HB4.out.2.keep0 k5⟩
  have HF5 : Hid (Fl w5 (fun _ => True) q3 (A.2.1.map encI) ∧ Fl w5 (fun _ => True) q5 (A.2.1.map encI)) := ⟨HF4.out.keep k5 (fun _ _ => id), f5⟩
  clear k5 f5 l5 hr hxc hae HB4 HF4 HL4
  go_upto_region 5 with (refine wpList_store_all rfl 27 _ _ rfl 12 w5.heap.size zeroC.toList xc.toList rfl (by rw [Array.toArray_toList]; rfl) (by exact Lv.new w5 _ _) szCmd rfl HXcl.out HXc1.out ?_; intro w6 hl6 k6)
  have k56 : Kp (fun _ => False) w5 w6 := ((Kp.refl (fun _ => False) w5).alloc (.cells zeroC 27)).trans k6 (fun b hb e => by omega)
  obtain ⟨g2, hg2⟩ : ∃ x, x = w5.heap.size := ⟨_, rfl⟩
  rw [← hg2] at hl6 ⊢
  have HK6 : Hid (Kp (fun _ => False) w w6) := HK5.out.trans k56 (fun _ _ e => e)
  have HL6 : Hid (Lv w6 g xb.toList ∧ Lv w6 g2 xc.toList) := ⟨HL5.out.keep k56 id, hl6⟩
  have HE : Hid (Calls _ _ _ w6 _) := bytes_same q1 q2 m1 m2 c1 c2 rb w6 (HB5.out.1.keep0 k56) (HB5.out.2.keep0 k56)
  have HSc : Hid (Calls Tryd.prog 12 #[.agg xb, .agg xc] w6 fun e w' => e = .returned (.bool true) ∧ Kp (fun _ => False) w6 w') := by
    rw [HXb.out, HXc.out]
    exact same_cmd A.1 (fun _ => True) (fun _ => True) q3 q5 c3 c5 A.2.1 w6 (HF5.out.1.keep k56 (fun _ _ => id)) (HF5.out.2.keep k56 (fun _ _ => id)) HLn.out
  clear k6 k56 hl6 hg2 HB5 HF5 HL5
  go_wp2_with fail
  refine HE.out.mono ?_
  rintro e9 w9 ⟨rfl, hw9⟩
  have hw8 := hw9.symm
  subst hw8
  clear hw9
  go_wp2_with (first
    | (refine wpList_ldw (by first | rfl | go_simp) 27 _ rfl g rfl xb.toList dC HL6.out.1 hdC hdR (by rw [szCmd, HXbl.out]) ?_; rw [Array.toArray_toList])
    | (refine wpList_ldw (by first | rfl | go_simp) 27 _ rfl g2 rfl xc.toList dC HL6.out.2 hdC hdR (by rw [szCmd, HXcl.out]) ?_; rw [Array.toArray_toList]))
  refine HSc.out.mono ?_
  rintro e9 w7 ⟨rfl, k7⟩
  have HK7 : Hid (Kp (fun _ => False) w w7) := HK6.out.trans k7 (fun _ _ e => e)
  clear k7
  go_wp2_with fail
  refine (HW.out w7 HK7.out).mono ?_
  rintro e9 w8 ⟨rfl, k8⟩
  have HK8 : Hid (Kp (fun _ => False) w w8) := HK7.out.trans k8 (fun _ _ e => e)
  clear k8
  go_wp2_with fail
  go_ret
  exact ⟨rfl, HK8.out⟩
end Go.Proofs.YtoepemgflbmlcaaDoor
