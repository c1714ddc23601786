/- Texts of this proof, joined: Oq, Oa7. -/
import Derived.Test.YtoepemgflbmlcaaDoorMgAZ
import Derived.Test.YtoepemgflbmlcaaDoorMgBE
import Derived.Test.YtoepemgflbmlcaaDoorMgAU
import Derived.Test.YtoepemgflbmlcaaDoorMgAV
import Derived.Test.YtoepemgflbmlcaaDoorMgBF
import Derived.Test.YtoepemgflbmlcaaDoorMgAW
import Derived.Test.YtoepemgflbmlcaaDoorMgAY
/- FrameCmds. -/
namespace Go.Proofs.YtoepemgflbmlcaaDoor
set_option linter.unusedVariables false
set_option linter.unusedSimpArgs false
open Go.RowKit Go.Deep

theorem keyB_byte (k : ByteArray) : ∀ x ∈ keyB k, x < 256 := fun x hx => by
  unfold keyB at hx
  obtain ⟨b, _, rfl⟩ := List.mem_map.1 hx
  exact b.toNat_lt
theorem numsB_byte {l : List Nat} (h : ∀ n ∈ l, n < 9223372036854775808) : ∀ x ∈ numsB l, x < 256 := fun x hx => by
  unfold numsB at hx
  obtain ⟨y, hy, hxy⟩ := List.mem_flatMap.1 hx
  exact numB_byte (h y hy) x hxy
theorem cmdB_byte {c : Cs0} {zs : List Int} (h : mayC c zs = true) (hs : 0 ≤ c.sum ∧ c.sum < 4294967296) : ∀ x ∈ cmdB (cpOf c zs), x < 256 := by
  have hF := mayC_full h
  have hn := hF.n
  simp only [List.mem_cons, List.not_mem_nil, or_false, forall_eq_or_imp, forall_eq] at hn
  have hk := hF.key
  have hl := hF.len
  intro x hx
  unfold cmdB at hx
  rcases List.mem_append.1 hx with hx | hx
  · refine numsB_byte (fun n hn2 => ?_) x hx
    simp only [cpOf, List.mem_cons, List.not_mem_nil, or_false] at hn2
    rw [keyB_len] at hn2
    omega
  · rcases List.mem_append.1 hx with hx | hx
    · exact keyB_byte c.key x hx
    · rcases List.mem_append.1 hx with hx | hx
      · refine numB_byte ?_ x hx
        show (zs.map Int.toNat).length < _
        rw [List.length_map]
        omega
      · refine numsB_byte (fun n hn2 => ?_) x hx
        obtain ⟨z, hz, rfl⟩ := List.mem_map.1 (show n ∈ zs.map Int.toNat from hn2)
        have := hF.z z hz
        omega
/-- a command's bytes and the error, plain -/
def cmdR (c : Cs0) (zs : List Int) : List Nat × Int := if mayC c zs = true then (cmdB (cpOf c zs), 0) else ([], 1)
theorem CmdRes.norm {c : Cs0} {zs : List Int} {w : World} {e : Ending} {w' : World} (h : CmdRes c zs w e w') (hs : 0 ≤ c.sum ∧ c.sum < 4294967296) : ∃ q m cap, e = .returned (.tuple #[.slice q m cap, .int .i64 (cmdR c zs).2]) ∧ Rb w' q m (cmdR c zs).1 ∧ m ≤ cap := by
  unfold CmdRes at h
  unfold cmdR
  by_cases hm : mayC c zs = true
  · rw [if_pos hm] at h ⊢
    obtain ⟨v, he, ho⟩ := h
    obtain ⟨q, cap, hv, hmc, hr, _⟩ := ho.rb (cmdB_byte hm hs)
    exact ⟨q, _, cap, by rw [he, hv], hr, hmc⟩
  · rw [if_neg hm] at h ⊢
    exact ⟨none, 0, 0, h, Rb.nil _ _, Nat.le_refl _⟩
/-- the command of bytes and the error, plain -/
def atR (xs : List Nat) : Cs0 × List Int × Int := match okC xs with
  | some c => (csOf c, intsOf c.nodes, 0)
  | none => (⟨0, 0, ⟨#[]⟩, 0, 0, 0, 0, 0, 0, 0, 0⟩, [], 51)
theorem AtRes.norm {xs : List Nat} {w : World} {e : Ending} {w' : World} (hb : ∀ x ∈ xs, x < 256) (h : AtRes xs w e w') : ∃ q cap, e = .returned (.tuple #[.agg (cmdA (atR xs).1 (.slice q (atR xs).2.1.length cap)), .int .i64 (atR xs).2.2]) ∧ Fl w' (fun _ => True) q ((atR xs).2.1.map encI) ∧ Hid ((atR xs).2.1.length * 8 ≤ 140737488355328) := by
  unfold AtRes at h
  unfold atR
  cases hm : okC xs with
  | none =>
    rw [hm] at h
    exact ⟨none, 0, h, fun j u hu => (by cases hu), by show _ ≤ _; simp⟩
  | some c =>
    rw [hm] at h
    obtain ⟨q, cap, he, hf⟩ := h
    have hl : (intsOf c.nodes).length = c.nodes.length := by unfold intsOf; rw [List.length_map]
    refine ⟨q, cap, ?_, hf.mono (fun _ _ => trivial), ?_⟩
    · show e = .returned (.tuple #[.agg (cmdA (csOf c) (.slice q (intsOf c.nodes).length cap)), .int .i64 0])
      rw [hl]
      exact he
    · have h9 : c.nodes.length ≤ 255 := by
        unfold okC at hm
        obtain ⟨⟨c', t⟩, h1, h2⟩ := Option.bind_eq_some_iff.1 hm
        have := (rdCmd_back hb h1).2.1
        dsimp only at h2
        split at h2
        · injection h2 with h2
          subst h2
          exact this.l
        · cases h2
      show (intsOf c.nodes).length * 8 ≤ _
      omega

set_option maxRecDepth 100000 in
set_option maxHeartbeats 3200000 in
theorem frameCmds_walk (cs : Array Value) (p : Option Addr) (n cap : Nat) (xs : List Nat) (w : World) (hc : CmdG w cs) (h : Rb w p n xs) (hnc : n ≤ cap) (hcap : Hid (cap ≤ 140737488355328)) (ht : Turns w) :
    Calls Tryd.prog 3 #[.agg cs, .slice p n cap] w fun e w' => e = .returned (.bool true) ∧ Kp (fun _ => False) w w' := by
  obtain ⟨c, pc, cp, zs, rfl, hfl, hzl, hg1, hg2, hg3⟩ := hc
  have HC1 : Hid (∀ u, Kp (fun _ => False) w u → Calls Tryd.prog 7 #[.agg (cmdA c (.slice pc zs.length cp))] u fun e w' => CmdRes c zs u e w' ∧ Kp (fun _ => False) u w') := fun u k => fcmd_ok c _ pc zs.length cp zs u (hfl.keep k (fun _ _ => id)) (fun b hb => Nat.lt_of_lt_of_le hb k.size) rfl (by omega) hg3 ⟨hg1, hg2⟩
  have HC2 : Hid (∀ u, Kp (fun _ => False) w u → Calls Tryd.prog 8 #[.agg (cmdA c (.slice pc zs.length cp))] u fun e w' => CmdRes c zs u e w' ∧ Kp (fun _ => False) u w') := fun u k => xcmdw_ok c _ pc zs.length cp zs u (hfl.keep k (fun _ _ => id)) (fun b hb => Nat.lt_of_lt_of_le hb k.size) rfl (by omega) hg3 ⟨hg1, hg2⟩
  have HR1 : Hid (∀ u, Kp (fun _ => False) w u → Calls Tryd.prog 9 #[.slice p n cap] u fun e w' => AtRes xs u e w' ∧ Kp (fun _ => False) u w') := fun u k => readcmd_ok p n cap xs u (h.keep0 k) hnc (by have := hcap.out; omega)
  have HR2 : Hid (∀ u, Kp (fun _ => False) w u → Calls Tryd.prog 10 #[.slice p n cap] u fun e w' => AtRes xs u e w' ∧ Kp (fun _ => False) u w') := fun u k => xreadcmd_ok p n cap xs u (h.keep0 k) hnc (by have := hcap.out; omega)
  have HW : Hid (∀ u, Kp (fun _ => False) w u → Calls Tryd.prog 13 #[.slice none 0 0] u fun e w' => e = .returned (.bool true) ∧ Kp (fun _ => False) u w') := fun u k => frameWraps_walk none 0 0 [] u (Rb.nil _ _) (Nat.le_refl _) (Nat.zero_le _) (ht.keep0 k)
  have HB : Hid (∀ x ∈ xs, x < 256) := h.byte
  have HS : Hid (0 ≤ c.sum ∧ c.sum < 4294967296) := ⟨hg1, hg2⟩
  have HK0 : Hid (Kp (fun _ => False) w (w.alloc (.cells (cmdA c (.slice pc zs.length cp)) 27))) := (Kp.refl _ _).alloc _
  have HL0 : Hid (Lv (w.alloc (.cells (cmdA c (.slice pc zs.length cp)) 27)) w.heap.size (cmdA c (.slice pc zs.length cp)).toList) := Lv.new w _ _
  obtain ⟨xa, hxa⟩ : ∃ x, x = cmdA c (.slice pc zs.length cp) := ⟨_, rfl⟩
  have HXl : Hid (xa.toList.length = 12) := by rw [hxa]; rfl
  rw [← hxa] at HC1 HC2 HK0 HL0 ⊢
  clear hfl hzl hg1 hg2 hg3 h hnc hcap ht hxa
  obtain ⟨dC, hdC, hdR⟩ := dsCmd
  go_enter Tryd.func3, Tryd.ntmps3
  go_upto_region 1 with fail
  obtain ⟨u0, hu0⟩ : ∃ x, x = w.alloc (.cells xa 27) := ⟨_, rfl⟩
  rw [← hu0] at HK0 HL0 ⊢
  clear hu0
  go_wp2_with (refine wpList_load_all rfl 27 _ rfl 12 w.heap.size xa.toList rfl HL0.out ⟨dC, hdC, hdR⟩ szCmd HXl.out ?_; rw [Array.toArray_toList])
  refine (HC1.out u0 HK0.out).mono ?_
  rintro e9 w1 ⟨hr, k1⟩
  obtain ⟨q1, m1, c1, rfl, b1, _⟩ := hr.norm HS.out
  have HK1 : Hid (Kp (fun _ => False) w w1) := HK0.out.trans k1 (fun _ _ e => e)
  have HL1 : Hid (Lv w1 w.heap.size xa.toList) := HL0.out.keep k1 id
  have HB1 : Hid (Rb w1 q1 m1 (cmdR c zs).1) := b1
  clear k1 b1 hr
  obtain ⟨rb, hrb⟩ : ∃ x, x = (cmdR c zs).1 := ⟨_, rfl⟩
  obtain ⟨re, hre⟩ : ∃ x, x = (cmdR c zs).2 := ⟨_, rfl⟩
  rw [← hrb] at HB1
  rw [← hre]
  go_wp2_with (refine wpList_load_all rfl 27 _ rfl 12 w.heap.size xa.toList rfl HL1.out ⟨dC, hdC, hdR⟩ szCmd HXl.out ?_; rw [Array.toArray_toList])
  refine (HC2.out w1 HK1.out).mono ?_
  rintro e9 w2 ⟨hr, k2⟩
  obtain ⟨q2, m2, c2, rfl, b2, _⟩ := hr.norm HS.out
  rw [← hrb] at b2
  rw [← hre]
  have HK2 : Hid (Kp (fun _ => False) w w2) := HK1.out.trans k2 (fun _ _ e => e)
  have HB2 : Hid (Rb w2 q1 m1 rb ∧ Rb w2 q2 m2 rb) := ⟨HB1.out.keep0 k2, b2⟩
  clear k2 b2 hr hrb hre HL1 HB1
  go_wp2_with fail
  refine (HR1.out w2 HK2.out).mono ?_
  rintro e9 w3 ⟨hr, k3⟩
  obtain ⟨q3, c3, rfl, f3, l3⟩ := hr.norm HB.out
  obtain ⟨A, hA⟩ : ∃ x, x = atR xs := ⟨_, rfl⟩
  rw [← hA] at f3 l3 ⊢
  have HA : Hid (A = atR xs) := hA
  obtain ⟨xb, hxb⟩ : ∃ x, x = cmdA A.1 (.slice q3 A.2.1.length c3) := ⟨_, rfl⟩
  have HXb : Hid (xb = cmdA A.1 (.slice q3 A.2.1.length c3)) := hxb
  have HXbl : Hid (xb.toList.length = 12) := by rw [hxb]; rfl
  have HXb1 : Hid (xb.toList.toArray.all (·.oneCell') = true) := by rw [hxb]; exact cmd_one _ rfl
  rw [← hxb]
  have HK3 : Hid (Kp (fun _ => False) w w3) := HK2.out.trans k3 (fun _ _ e => e)
  have HB3 : Hid (Rb w3 q1 m1 rb ∧ Rb w3 q2 m2 rb) := ⟨HB2.out.1.keep0 k3, HB2.out.2.keep0 k3⟩
  have HF3 : Hid (Fl w3 (fun _ => True) q3 (A.2.1.map encI)) := f3
  have HLn : Hid (A.2.1.length * 8 ≤ 140737488355328) := l3
  clear k3 f3 l3 hr hA hxb HB2
  obtain ⟨ae, hae⟩ : ∃ x, x = A.2.2 := ⟨_, rfl⟩
  rw [← hae]
  go_upto_region 4 with (refine wpList_store_all rfl 27 _ _ rfl 12 w3.heap.size zeroC.toList xb.toList rfl (by rw [Array.toArray_toList]; rfl) (by exact Lv.new w3 _ _) szCmd rfl HXbl.out HXb1.out ?_; intro w4 hl4 k4)
  have k34 : Kp (fun _ => False) w3 w4 := ((Kp.refl (fun _ => False) w3).alloc (.cells zeroC 27)).trans k4 (fun b hb e => by omega)
  obtain ⟨g, hg⟩ : ∃ x, x = w3.heap.size := ⟨_, rfl⟩
  rw [← hg] at hl4 ⊢
  have HK4 : Hid (Kp (fun _ => False) w w4) := HK3.out.trans k34 (fun _ _ e => e)
  have HL4 : Hid (Lv w4 g xb.toList) := hl4
  have HB4 : Hid (Rb w4 q1 m1 rb ∧ Rb w4 q2 m2 rb) := ⟨HB3.out.1.keep0 k34, HB3.out.2.keep0 k34⟩
  have HF4 : Hid (Fl w4 (fun _ => True) q3 (A.2.1.map encI)) := HF3.out.keep k34 (fun _ _ => id)
  clear k4 k34 hl4 hg HB3 HF3
  go_wp2_with fail
  refine (HR2.out w4 HK4.out).mono ?_
  rintro e9 w5 ⟨hr, k5⟩
  obtain ⟨q5, c5, rfl, f5, l5⟩ := hr.norm HB.out
  rw [← HA.out] at f5 ⊢
  obtain ⟨xc, hxc⟩ : ∃ x, x = cmdA A.1 (.slice q5 A.2.1.length c5) := ⟨_, rfl⟩
  have HXc : Hid (xc = cmdA A.1 (.slice q5 A.2.1.length c5)) := hxc
  have HXcl : Hid (xc.toList.length = 12) := by rw [hxc]; rfl
  have HXc1 : Hid (xc.toList.toArray.all (·.oneCell') = true) := by rw [hxc]; exact cmd_one _ rfl
  rw [← hxc, ← hae]
  have HK5 : Hid (Kp (fun _ => False) w w5) := HK4.out.trans k5 (fun _ _ e => e)
  have HL5 : Hid (Lv w5 g xb.toList) := HL4.out.keep k5 id
  have HB5 : Hid (Rb w5 q1 m1 rb ∧ Rb w5 q2 m2 rb) := ⟨HB4.out.1.keep0 k5, HB4.out.2.keep0 k5⟩
  have HF5 : Hid (Fl w5 (fun _ => True) q3 (A.2.1.map encI) ∧ Fl w5 (fun _ => True) q5 (A.2.1.map encI)) := ⟨HF4.out.keep k5 (fun _ _ => id), f5⟩
  clear k5 f5 l5 hr hxc hae HB4 HF4 HL4
  go_upto_region 5 with (refine wpList_store_all rfl 27 _ _ rfl 12 w5.heap.size zeroC.toList xc.toList rfl (by rw [Array.toArray_toList]; rfl) (by exact Lv.new w5 _ _) szCmd rfl HXcl.out HXc1.out ?_; intro w6 hl6 k6)
  have k56 : Kp (fun _ => False) w5 w6 := ((Kp.refl (fun _ => False) w5).alloc (.cells zeroC 27)).trans k6 (fun b hb e => by omega)
  obtain ⟨g2, hg2⟩ : ∃ x, x = w5.heap.size := ⟨_, rfl⟩
  rw [← hg2] at hl6 ⊢
  have HK6 : Hid (Kp (fun _ => False) w w6) := HK5.out.trans k56 (fun _ _ e => e)
  have HL6 : Hid (Lv w6 g xb.toList ∧ Lv w6 g2 xc.toList) := ⟨HL5.out.keep k56 id, hl6⟩
  have HE : Hid (Calls _ _ _ w6 _) := bytes_same q1 q2 m1 m2 c1 c2 rb w6 (HB5.out.1.keep0 k56) (HB5.out.2.keep0 k56)
  have HSc : Hid (Calls Tryd.prog 12 #[.agg xb, .agg xc] w6 fun e w' => e = .returned (.bool true) ∧ Kp (fun _ => False) w6 w') := by
    rw [HXb.out, HXc.out]
    exact same_cmd A.1 (fun _ => True) (fun _ => True) q3 q5 c3 c5 A.2.1 w6 (HF5.out.1.keep k56 (fun _ _ => id)) (HF5.out.2.keep k56 (fun _ _ => id)) HLn.out
  clear k6 k56 hl6 hg2 HB5 HF5 HL5
  go_wp2_with fail
  refine HE.out.mono ?_
  rintro e9 w9 ⟨rfl, hw9⟩
  have hw8 := hw9.symm
  subst hw8
  clear hw9
  go_wp2_with (first
    | (refine wpList_ldw (by first | rfl | go_simp) 27 _ rfl g rfl xb.toList dC HL6.out.1 hdC hdR (by rw [szCmd, HXbl.out]) ?_; rw [Array.toArray_toList])
    | (refine wpList_ldw (by first | rfl | go_simp) 27 _ rfl g2 rfl xc.toList dC HL6.out.2 hdC hdR (by rw [szCmd, HXcl.out]) ?_; rw [Array.toArray_toList]))
  refine HSc.out.mono ?_
  rintro e9 w7 ⟨rfl, k7⟩
  have HK7 : Hid (Kp (fun _ => False) w w7) := HK6.out.trans k7 (fun _ _ e => e)
  clear k7
  go_wp2_with fail
  refine (HW.out w7 HK7.out).mono ?_
  rintro e9 w8 ⟨rfl, k8⟩
  have HK8 : Hid (Kp (fun _ => False) w w8) := HK7.out.trans k8 (fun _ _ e => e)
  clear k8
  go_wp2_with fail
  go_ret
  exact ⟨rfl, HK8.out⟩
end Go.Proofs.YtoepemgflbmlcaaDoor

/- The document's MayMsg (laid by scripts/mkoa7.py). -/
namespace Go.Proofs.YtoepemgflbmlcaaDoor
set_option linter.unusedVariables false
set_option linter.unusedSimpArgs false
open Go.RowKit Go.Deep

theorem upTo_false {most : Int} {zs : List Int} {k : Nat} {z : Int} (h : zs[k]? = some z) (hz : ¬ (0 ≤ z ∧ z ≤ most)) : upTo most zs = false := by
  cases q : upTo most zs with
  | false => rfl
  | true => exact absurd (upTo_at.1 q k z h) hz
theorem fineB_false {z : Int} (h : fineB z = false) : ¬ (0 ≤ z ∧ z ≤ 1152921504606846976) := fun e => by
  unfold fineB at h
  rw [decide_eq_true e] at h
  cases h
theorem fineB_true {z : Int} (h : fineB z = true) : 0 ≤ z ∧ z ≤ 1152921504606846976 := by
  unfold fineB at h
  exact of_decide_eq_true h

set_option maxRecDepth 100000 in
set_option maxHeartbeats 12800000 in
theorem xmayMsg_at (s : Ms0) (p pv pb : Option Addr) (n1 cp n2 cv n3 cb : Nat) (C : Bool) (Z : Nat → Prop) (l : List (Vo × Value)) (w : World) (h3 : n3 ≤ 140737488355328) (hn : n2 = l.length) (h2 : n2 * 136 ≤ 140737488355328) (hv : Fl w Z pv (vflat l)) (hvn : Vn w Z l) (hg : ∀ x ∈ l, goodC x.1.c)
    (hC : ∀ u, Kp (fun _ => False) w u → Calls Tryd.prog 25 #[.agg (cmdA s.c (.slice p n1 cp))] u fun e w' => e = .returned (.bool C) ∧ Kp (fun _ => False) u w') :
    Calls Tryd.prog 22 #[.agg (msgA s (.slice p n1 cp) (.slice pv n2 cv) (.slice pb n3 cb))] w fun e w' => e = .returned (.bool (decide (n2 ≤ 1000) && (decide (n3 ≤ 2000) && (decide (1 ≤ s.kind) && (decide (s.kind ≤ 15) && (upTo 15 [s.src, s.dst] && (upTo 1152921504606846976 [s.ballot, s.slot, s.blob, s.index, s.epoch, s.id] && (C && mayV (l.map (·.1)))))))))) ∧ Kp (fun _ => False) w w' := by
  have HC : Hid (∀ u, Kp (fun _ => False) w u → Calls Tryd.prog 25 #[.agg (cmdA s.c (.slice p n1 cp))] u fun e w' => e = .returned (.bool C) ∧ Kp (fun _ => False) u w') := hC
  have HF : Hid (Fl w Z pv (vflat l)) := hv
  have HV : Hid (Vn w Z l) := hvn
  have HG : Hid (∀ x ∈ l, goodC x.1.c) := hg
  have HN : Hid (n2 = l.length ∧ n2 * 136 ≤ 140737488355328) := ⟨hn, h2⟩
  have hn3 : (n3 : Int) ≤ 140737488355328 := by omega
  have hn2 : (n2 : Int) ≤ 1034834473200 := by omega
  have HK : Hid (Kp (fun _ => False) w (w.alloc (.cells (msgA s (.slice p n1 cp) (.slice pv n2 cv) (.slice pb n3 cb)) 40))) := (Kp.refl _ _).alloc _
  have HL : Hid (Lv (w.alloc (.cells (msgA s (.slice p n1 cp) (.slice pv n2 cv) (.slice pb n3 cb)) 40)) w.heap.size (msgA s (.slice p n1 cp) (.slice pv n2 cv) (.slice pb n3 cb)).toList) := Lv.new w _ _
  obtain ⟨dV, hdV, hdVr⟩ := dsVote
  obtain ⟨dC, hdC, hdCr⟩ := dsCmd
  obtain ⟨B, hB⟩ : ∃ b, b = (decide (n2 ≤ 1000) && (decide (n3 ≤ 2000) && (decide (1 ≤ s.kind) && (decide (s.kind ≤ 15) && (upTo 15 [s.src, s.dst] && (upTo 1152921504606846976 [s.ballot, s.slot, s.blob, s.index, s.epoch, s.id] && (C && mayV (l.map (·.1))))))))) := ⟨_, rfl⟩
  rw [← hB]
  have HB : Hid (B = (decide (n2 ≤ 1000) && (decide (n3 ≤ 2000) && (decide (1 ≤ s.kind) && (decide (s.kind ≤ 15) && (upTo 15 [s.src, s.dst] && (upTo 1152921504606846976 [s.ballot, s.slot, s.blob, s.index, s.epoch, s.id] && (C && mayV (l.map (·.1)))))))))) := hB
  have HFi : Hid (∀ (z : Int) (u : World), Calls _ _ _ u _) := fun z u => rfine_ok z u
  clear hC h3 h2 hB hv hvn hg hn
  go_enter Tryd.func22, Tryd.ntmps22
  go_upto_region 1 with fail
  obtain ⟨u0, hu0⟩ : ∃ x, x = w.alloc (.cells (msgA s (.slice p n1 cp) (.slice pv n2 cv) (.slice pb n3 cb)) 40) := ⟨_, rfl⟩
  have hu0' := hu0.symm
  simp only [msgA] at hu0'
  rw [hu0']
  rw [← hu0] at HK HL
  clear hu0 hu0'
  obtain ⟨g, hg⟩ : ∃ x, x = w.heap.size := ⟨_, rfl⟩
  rw [← hg] at HL ⊢
  clear hg
  have c3 : u0.cell? ⟨g, 3, none⟩ = some (.int .i64 s.ballot) := HL.out.cell (j := 3) rfl
  have c4 : u0.cell? ⟨g, 4, none⟩ = some (.int .i64 s.slot) := HL.out.cell (j := 4) rfl
  have c5 : u0.cell? ⟨g, 5, none⟩ = some (.int .i64 s.blob) := HL.out.cell (j := 5) rfl
  have c6 : u0.cell? ⟨g, 6, none⟩ = some (.int .i64 s.index) := HL.out.cell (j := 6) rfl
  have c7 : u0.cell? ⟨g, 7, none⟩ = some (.int .i64 s.epoch) := HL.out.cell (j := 7) rfl
  have c8 : u0.cell? ⟨g, 8, none⟩ = some (.int .i64 s.id) := HL.out.cell (j := 8) rfl
  have HF6 : Hid (Fl (u0.alloc (.cells #[.int .i64 s.ballot, .int .i64 s.slot, .int .i64 s.blob, .int .i64 s.index, .int .i64 s.epoch, .int .i64 s.id] 3)) (fun _ => True) (some ⟨u0.heap.size, 0, none⟩) ([s.ballot, s.slot, s.blob, s.index, s.epoch, s.id].map encI)) := fun j v hj => ⟨_, _, rfl, trivial, by rw [Nat.zero_add]; exact (Lv.new u0 #[.int .i64 s.ballot, .int .i64 s.slot, .int .i64 s.blob, .int .i64 s.index, .int .i64 s.epoch, .int .i64 s.id] 3).cell hj⟩
  have HK6 : Hid (Kp (fun _ => False) u0 (u0.alloc (.cells #[.int .i64 s.ballot, .int .i64 s.slot, .int .i64 s.blob, .int .i64 s.index, .int .i64 s.epoch, .int .i64 s.id] 3))) := (Kp.refl _ _).alloc _
  go_wp2_with fail
  clear c3 c4 c5 c6 c7 c8
  obtain ⟨u1, hu1⟩ : ∃ x, x = u0.alloc (.cells #[.int .i64 s.ballot, .int .i64 s.slot, .int .i64 s.blob, .int .i64 s.index, .int .i64 s.epoch, .int .i64 s.id] 3) := ⟨_, rfl⟩
  rw [← hu1] at HF6 HK6 ⊢
  clear hu1
  replace HK : Hid (Kp (fun _ => False) w u1) := HK.out.trans HK6.out (fun _ _ e => e)
  replace HL : Hid (Lv u1 g (msgA s (.slice p n1 cp) (.slice pv n2 cv) (.slice pb n3 cb)).toList) := HL.out.keep HK6.out id
  clear HK6
  obtain ⟨b6, hb6⟩ : ∃ x, x = u0.heap.size := ⟨_, rfl⟩
  rw [← hb6] at HF6 ⊢
  clear hb6
  obtain ⟨zs, hzs⟩ : ∃ x : List Int, x = [s.ballot, s.slot, s.blob, s.index, s.epoch, s.id] := ⟨_, rfl⟩
  have HZs : Hid (zs = [s.ballot, s.slot, s.blob, s.index, s.epoch, s.id] ∧ zs.length = 6) := ⟨hzs, by rw [hzs]; rfl⟩
  rw [← hzs] at HF6
  clear hzs
  go_loopg [21] 6 (fun gk iv wz => ∃ k : Nat, k ≤ 6 ∧ gk = 6 - k ∧ iv = .int .i64 k ∧ u1 = wz ∧ Hid (∀ (i : Nat) (z : Int), i < k → zs[i]? = some z → 0 ≤ z ∧ z ≤ 1152921504606846976))
  case atStart => exact ⟨0, Nat.zero_le _, rfl, rfl, rfl, fun i z hi => absurd hi (Nat.not_lt_zero _)⟩
  case round =>
    obtain ⟨k, hk, rfl, rfl, rfl, HT⟩ := hrel
    by_cases hlt : (k : Int) < 6
    · have hkl : k < zs.length := by have := HZs.out; omega
      obtain ⟨z, hz⟩ : ∃ z, zs[k]? = some z := ⟨_, List.getElem?_eq_getElem hkl⟩
      obtain ⟨b, o, hbo, _, hc⟩ := HF6.out k (encI z) (by rw [List.getElem?_map, hz]; rfl)
      injection hbo with hbo
      injection hbo with hb1 ho1
      subst hb1 ho1
      have hc' : u1.cell? ⟨b6, k, none⟩ = some (.int .i64 z) := by rw [Nat.zero_add] at hc; exact hc
      have HZ : Hid (zs[k]? = some z) := hz
      have HKi : Hid (wrap64 ((k : Int) + 1) = ((k + 1 : Nat) : Int)) := (by show _ = _; unfold wrap64; omega)
      clear hc hz hkl
      go_wp2_with fail
      refine (HFi.out z u1).mono ?_
      rintro e9 w9 ⟨rfl, hw9⟩
      have hw8 := hw9.symm
      subst hw8
      clear hw9
      cases hfz : fineB z with
      | false =>
        have HRf : Hid (B = false) := by
          have h1 := upTo_false HZ.out (fineB_false hfz)
          rw [HZs.out.1] at h1
          show _ = _
          rw [HB.out, h1]
          simp
        clear hfz
        go_wp2_with fail
        go_ret
        exact ⟨by rw [HRf.out]; rfl, HK.out⟩
      | true =>
        have HOk : Hid (0 ≤ z ∧ z ≤ 1152921504606846976) := fineB_true hfz
        clear hfz
        go_wp2_with fail
        go_roundg (6 - (k + 1))
        case rel =>
          refine ⟨k + 1, by omega, rfl, by first | rw [HKi.out] | rfl | go_num, rfl, fun i y hi hy => ?_⟩
          by_cases e : i = k
          · subst e
            rw [HZ.out] at hy
            cases hy
            exact HOk.out
          · exact HT.out i y (by omega) hy
        case measure => omega
    · have HU6 : Hid (upTo 1152921504606846976 [s.ballot, s.slot, s.blob, s.index, s.epoch, s.id] = true) := by
        show _ = _
        rw [← HZs.out.1]
        exact upTo_at.2 (fun i z hz => HT.out i z (by have := HZs.out; have := (List.getElem?_eq_some_iff.1 hz).1; omega) hz)
      have hcv : u1.cell? ⟨g, 22, none⟩ = some (.slice pv n2 cv) := HL.out.cell (j := 22) rfl
      clear HT
      go_wp2_with fail
      go_loopg [32] n2 (fun gk iv wz => ∃ k : Nat, k ≤ n2 ∧ gk = n2 - k ∧ iv = .int .i64 k ∧ Hid (Kp (fun _ => False) u1 wz ∧ ∀ (i : Nat) (x : Vo × Value), i < k → l[i]? = some x → mayVo x.1 = true))
      case atStart => exact ⟨0, Nat.zero_le _, rfl, rfl, Kp.refl _ _, fun i x hi => absurd hi (Nat.not_lt_zero _)⟩
      case round =>
        obtain ⟨j, hj, rfl, rfl, HR⟩ := hrel
        have HKr : Hid (Kp (fun _ => False) w wr) := HK.out.trans HR.out.1 (fun _ _ e => e)
        by_cases hlt2 : (j : Int) < (n2 : Int)
        · have hk1 : j < l.length := by have := HN.out; omega
          obtain ⟨b1, o1, rfl, r1⟩ := fl_range (HF.out.keep HKr.out (fun _ _ => id)) hk1
          obtain ⟨q1, d1, en1, f1, hb1⟩ := (HV.out.keep HKr.out (fun _ _ => id)) l[j] (List.getElem_mem hk1)
          have hgk := HG.out l[j] (List.getElem_mem hk1)
          rw [en1] at r1
          obtain ⟨v, hvv⟩ : ∃ v, v = l[j].1 := ⟨_, rfl⟩
          rw [← hvv] at r1 f1 hb1 hgk
          have HAt : Hid (∃ x, l[j]? = some x ∧ x.1 = v) := ⟨l[j], List.getElem?_eq_getElem hk1, hvv.symm⟩
          obtain ⟨nl, hnl⟩ : ∃ nl, nl = v.nodes.length := ⟨_, rfl⟩
          rw [← hnl] at r1
          have HMay : Hid (∀ u, Kp (fun _ => False) wr u → Calls Tryd.prog 25 #[.agg (cmdA v.c (.slice q1 nl d1))] u fun e w' => e = .returned (.bool (mayC v.c v.nodes)) ∧ Kp (fun _ => False) u w') := fun u ku => rmayCmd_ok v.c Z q1 nl d1 v.nodes u (f1.keep ku (fun _ _ => id)) hnl (by omega) hgk.2.2
          have HR1 : Hid (wr.rangeAt b1 (o1 + j * 14) (vcell v (.slice q1 nl d1))) := r1
          have HO1 : Hid ((vcell v (.slice q1 nl d1)).toArray.all (·.oneCell') = true) := vcell_one v rfl
          have HKi : Hid (wrap64 ((j : Int) + 1) = ((j + 1 : Nat) : Int)) := (by have := HN.out; show _ = _; unfold wrap64; omega)
          have HNo : Hid (mayVo v = false → B = false) := fun hno => by
            obtain ⟨x, hx, hxv⟩ := HAt.out
            have h1 : mayV (l.map (·.1)) = false := by
              cases hq : mayV (l.map (·.1)) with
              | false => rfl
              | true =>
                have := List.all_eq_true.1 hq v (by rw [← hxv]; exact List.mem_map.2 ⟨x, List.mem_of_getElem? hx, rfl⟩)
                rw [hno] at this
                cases this
            rw [HB.out, h1]
            simp
          clear r1 f1 en1 hvv hnl hb1 hk1 hgk
          go_upto_region 10 with (first
            | (refine wpList_load_mid rfl 72 _ rfl b1 (o1 + j * 14) rfl _ dV HR1.out hdV hdVr szVote ?_)
            | (refine wpList_store_all rfl 72 _ _ rfl 14 wr.heap.size zeroV (vcell v (.slice q1 nl d1)) rfl rfl (by exact Lv.new wr _ _) szVote rfl rfl HO1.out ?_; intro u2 hl2 k2))
          have ku2 : Kp (fun _ => False) wr u2 := ((Kp.refl (fun _ => False) wr).alloc (.cells zeroV.toArray 72)).trans k2 (fun b hb e => by omega)
          obtain ⟨gv, hgv⟩ : ∃ x, x = wr.heap.size := ⟨_, rfl⟩
          rw [← hgv] at hl2 ⊢
          have HK2 : Hid (Kp (fun _ => False) wr u2) := ku2
          have HL2 : Hid (Lv u2 gv (vcell v (.slice q1 nl d1))) := hl2
          have c0 : u2.cell? ⟨gv, 0, none⟩ = some (.int .i64 v.slot) := hl2.cell (j := 0) rfl
          have c1 : u2.cell? ⟨gv, 1, none⟩ = some (.int .i64 v.ballot) := hl2.cell (j := 1) rfl
          clear ku2 hl2 k2 hgv HR1
          go_wp2_with fail
          refine (HFi.out v.slot u2).mono ?_
          rintro e9 w9 ⟨rfl, hw9⟩
          have hw8 := hw9.symm
          subst hw8
          clear hw9
          cases hfs : fineB v.slot with
          | false =>
            have HRf : Hid (B = false) := HNo.out (by unfold mayVo; rw [upTo_false (k := 0) rfl (fineB_false hfs)]; rfl)
            clear hfs
            go_wp2_with fail
            go_ret
            exact ⟨by rw [HRf.out]; rfl, HKr.out.trans HK2.out (fun _ _ e => e)⟩
          | true =>
          have HO1b : Hid (0 ≤ v.slot ∧ v.slot ≤ 1152921504606846976) := fineB_true hfs
          clear hfs
          go_wp2_with fail
          refine (HFi.out v.ballot u2).mono ?_
          rintro e9 w9 ⟨rfl, hw9⟩
          have hw8 := hw9.symm
          subst hw8
          clear hw9
          cases hfs : fineB v.ballot with
          | false =>
            have HRf : Hid (B = false) := HNo.out (by unfold mayVo; rw [upTo_false (k := 1) rfl (fineB_false hfs)]; rfl)
            clear hfs
            go_wp2_with fail
            go_ret
            exact ⟨by rw [HRf.out]; rfl, HKr.out.trans HK2.out (fun _ _ e => e)⟩
          | true =>
          have HUv : Hid (upTo 1152921504606846976 [v.slot, v.ballot] = true) := upTo_at.2 (fun i z hz => by
            have h2 := fineB_true hfs
            match i, hz with
            | 0, hz => cases hz; exact HO1b.out
            | 1, hz => cases hz; exact h2)
          clear hfs c0 c1
          go_wp2_with (refine wpList_ldm (by first | rfl | go_simp) 27 _ rfl gv 2 rfl (cmdA v.c (.slice q1 nl d1)).toList dC (HL2.out.range 2 12) hdC hdCr szCmd ?_)
          refine (HMay.out u2 HK2.out).mono ?_
          rintro e9 u4 ⟨rfl, k4⟩
          have HK4 : Hid (Kp (fun _ => False) wr u4) := HK2.out.trans k4 (fun _ _ e => e)
          clear k4
          cases hM : mayC v.c v.nodes with
          | false =>
            have HRf : Hid (B = false) := HNo.out (by unfold mayVo; rw [hM, HUv.out]; rfl)
            clear hM
            go_wp2_with fail
            go_ret
            exact ⟨by rw [HRf.out]; rfl, HKr.out.trans HK4.out (fun _ _ e => e)⟩
          | true =>
            have HRt : Hid (mayVo v = true) := by show _ = _; unfold mayVo; rw [hM, HUv.out]; rfl
            clear hM
            go_wp2_with fail
            go_roundg (n2 - (j + 1))
            case rel =>
              refine ⟨j + 1, by omega, rfl, by first | rw [HKi.out] | rfl | go_num, HR.out.1.trans HK4.out (fun _ _ e => e), fun i x hi hx => ?_⟩
              by_cases e : i = j
              · subst e
                obtain ⟨y, hy, hyv⟩ := HAt.out
                rw [hy] at hx
                cases hx
                rw [hyv]
                exact HRt.out
              · exact HR.out.2 i x (by omega) hx
            case measure => omega
        · have HVt : Hid (mayV (l.map (·.1)) = true) := List.all_eq_true.2 (fun v hv => by
            obtain ⟨x, hx, rfl⟩ := List.mem_map.1 hv
            obtain ⟨i, hi⟩ := List.getElem?_of_mem hx
            have := (List.getElem?_eq_some_iff.1 hi).1
            exact HR.out.2 i x (by have := HN.out; omega) hi)
          have HLr : Hid (Lv wr g (msgA s (.slice p n1 cp) (.slice pv n2 cv) (.slice pb n3 cb)).toList) := HL.out.keep HR.out.1 id
          have c0 : wr.cell? ⟨g, 0, none⟩ = some (.int .i64 s.kind) := HLr.out.cell (j := 0) rfl
          have c1 : wr.cell? ⟨g, 1, none⟩ = some (.int .i64 s.src) := HLr.out.cell (j := 1) rfl
          have c2 : wr.cell? ⟨g, 2, none⟩ = some (.int .i64 s.dst) := HLr.out.cell (j := 2) rfl
          clear HR
          by_cases t1 : 1 ≤ s.kind
          case neg =>
            have HRf : Hid (B = false) := by show _ = _; rw [HB.out, decide_eq_false t1]; simp
            go_wp2_with fail
            go_ret
            exact ⟨by rw [HRf.out]; rfl, HKr.out⟩
          by_cases t2 : s.kind ≤ 15
          case neg =>
            have HRf : Hid (B = false) := by show _ = _; rw [HB.out, decide_eq_false t2]; simp
            go_wp2_with fail
            go_ret
            exact ⟨by rw [HRf.out]; rfl, HKr.out⟩
          by_cases t3 : 0 ≤ s.src
          case neg =>
            have HRf : Hid (B = false) := by show _ = _; rw [HB.out, upTo_false (most := 15) (zs := [s.src, s.dst]) (k := 0) rfl (fun e => t3 e.1)]; simp
            go_wp2_with fail
            go_ret
            exact ⟨by rw [HRf.out]; rfl, HKr.out⟩
          by_cases t4 : s.src ≤ 15
          case neg =>
            have HRf : Hid (B = false) := by show _ = _; rw [HB.out, upTo_false (most := 15) (zs := [s.src, s.dst]) (k := 0) rfl (fun e => t4 e.2)]; simp
            go_wp2_with fail
            go_ret
            exact ⟨by rw [HRf.out]; rfl, HKr.out⟩
          by_cases t5 : 0 ≤ s.dst
          case neg =>
            have HRf : Hid (B = false) := by show _ = _; rw [HB.out, upTo_false (most := 15) (zs := [s.src, s.dst]) (k := 1) rfl (fun e => t5 e.1)]; simp
            go_wp2_with fail
            go_ret
            exact ⟨by rw [HRf.out]; rfl, HKr.out⟩
          by_cases t6 : s.dst ≤ 15
          case neg =>
            have HRf : Hid (B = false) := by show _ = _; rw [HB.out, upTo_false (most := 15) (zs := [s.src, s.dst]) (k := 1) rfl (fun e => t6 e.2)]; simp
            go_wp2_with fail
            go_ret
            exact ⟨by rw [HRf.out]; rfl, HKr.out⟩
          have HRe : Hid (B = (decide (n2 ≤ 1000) && (decide (n3 ≤ 2000) && C))) := by
            show _ = _
            rw [HB.out, decide_eq_true t1, decide_eq_true t2, HU6.out, HVt.out, show upTo 15 [s.src, s.dst] = true from upTo_at.2 (fun i z hz => by
              match i, hz with
              | 0, hz => cases hz; exact ⟨t3, t4⟩
              | 1, hz => cases hz; exact ⟨t5, t6⟩)]
            cases C <;> simp
          go_wp2_with (refine wpList_ldm (by first | rfl | go_simp) 27 _ rfl g 10 rfl (cmdA s.c (.slice p n1 cp)).toList dC (HLr.out.range 10 12) hdC hdCr szCmd ?_)
          refine (HC.out wr HKr.out).mono ?_
          rintro e9 u5 ⟨rfl, k5⟩
          have HK5 : Hid (Kp (fun _ => False) w u5) := HKr.out.trans k5 (fun _ _ e => e)
          have HL5 : Hid (Lv u5 g (msgA s (.slice p n1 cp) (.slice pv n2 cv) (.slice pb n3 cb)).toList) := HLr.out.keep k5 id
          clear k5 c0 c1 c2 t1 t2 t3 t4 t5 t6
          cases C with
          | false =>
            have HRf : Hid (B = false) := by show _ = _; rw [HRe.out]; simp
            go_wp2_with fail
            go_ret
            exact ⟨by rw [HRf.out]; rfl, HK5.out⟩
          | true =>
            have d22 : u5.cell? ⟨g, 22, none⟩ = some (.slice pv n2 cv) := HL5.out.cell (j := 22) rfl
            have d23 : u5.cell? ⟨g, 23, none⟩ = some (.slice pb n3 cb) := HL5.out.cell (j := 23) rfl
            by_cases t7 : n2 ≤ 1000
            case neg =>
              have t7i : ¬ (n2 : Int) ≤ 1000 := by omega
              have HRf : Hid (B = false) := by show _ = _; rw [HRe.out, decide_eq_false t7]; rfl
              clear t7
              go_wp2_with fail
              go_ret
              exact ⟨by rw [HRf.out]; rfl, HK5.out⟩
            have t7i : (n2 : Int) ≤ 1000 := by omega
            by_cases t8 : n3 ≤ 2000
            case neg =>
              have t8i : ¬ (n3 : Int) ≤ 2000 := by omega
              have HRf : Hid (B = false) := by show _ = _; rw [HRe.out, decide_eq_true t7, decide_eq_false t8]; rfl
              clear t7 t8
              go_wp2_with fail
              go_ret
              exact ⟨by rw [HRf.out]; first | rfl | (show Ending.returned (.bool (decide ((n3 : Int) ≤ 2000))) = _; rw [decide_eq_false (by omega)]), HK5.out⟩
            have t8i : (n3 : Int) ≤ 2000 := by omega
            have HRf : Hid (B = true) := by show _ = _; rw [HRe.out, decide_eq_true t7, decide_eq_true t8]; rfl
            clear t7 t8
            go_wp2_with fail
            go_ret
            exact ⟨by rw [HRf.out]; rfl, HK5.out⟩
theorem xmayMsg_ok (Z : Nat → Prop) (μ : Ms) (v : Value) (w : World) (h : Mr w Z μ v) (hg : goodM μ) : Calls Tryd.prog 22 #[v] w fun e w' => e = .returned (.bool (mayM μ)) ∧ Kp (fun _ => False) w w' := by
  obtain ⟨p, cp, pv, cv, l, pb, cb, rfl, h1, h2, h3, h4, h5, h6, h7, h8, h9⟩ := h
  have hgl : ∀ x ∈ l, goodC x.1.c := fun x hx => hg.2 x.1 (by rw [← h3]; exact List.mem_map.2 ⟨x, hx, rfl⟩)
  have := xmayMsg_at μ.s p pv pb μ.nodes.length cp l.length cv μ.bytes.length cb (mayC μ.s.c μ.nodes) Z l w h9 rfl h6 h4 h5 hgl (fun u ku => rmayCmd_ok μ.s.c Z p μ.nodes.length cp μ.nodes u (h1.keep ku (fun _ _ => id)) rfl (by omega) hg.1.2.2)
  have hl : l.length = μ.votes.length := by rw [← h3, List.length_map]
  rw [h3] at this
  rw [hl] at this ⊢
  exact this
end Go.Proofs.YtoepemgflbmlcaaDoor
