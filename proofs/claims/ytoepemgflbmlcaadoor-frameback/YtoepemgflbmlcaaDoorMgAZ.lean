/- Texts of this proof, joined: Oo, Ov. -/
import Derived.Test.YtoepemgflbmlcaaDoorMgAK
import Derived.Test.YtoepemgflbmlcaaDoorMgAY
import Derived.Test.YtoepemgflbmlcaaDoorMgAX
/- The document's Cmd (laid by scripts/mkoo.py). -/
namespace Go.Proofs.YtoepemgflbmlcaaDoor
set_option linter.unusedVariables false
set_option linter.unusedSimpArgs false
open Go.RowKit Go.Deep

set_option maxRecDepth 100000 in
set_option maxHeartbeats 6400000 in
theorem xcmdw_yes (a0 a1 a3 a4 a5 a6 a7 a8 a9 a10 : Nat) (key : ByteArray) (Z : Nat → Prop) (p : Option Addr) (n cap : Nat) (ns : List Nat) (w : World) (hf : Fl w Z p (ns.map (fun x : Nat => Value.int .i64 (x : Int)))) (hZ : ∀ b, Z b → b < w.heap.size) (hn : n = ns.length)
    (hk : key.size ≤ 8) (hn9 : n ≤ 255) (hs : ∀ x ∈ [a0, a1, a3, a4, a5, a6, a7, a8, a9, a10], x ≤ 1152921504606846976) (h8 : a8 < 4294967296) (hz : ∀ x ∈ ns, x ≤ 15)
    (hM : ∀ u, Kp (fun _ => False) w u → Calls Tryd.prog 25 #[.agg (cmdA ⟨(a0 : Int), (a1 : Int), key, (a3 : Int), (a4 : Int), (a5 : Int), (a6 : Int), (a7 : Int), (a8 : Int), (a9 : Int), (a10 : Int)⟩ (.slice p n cap))] u fun e w' => e = .returned (.bool true) ∧ Kp (fun _ => False) u w') :
    Calls Tryd.prog 8 #[.agg (cmdA ⟨(a0 : Int), (a1 : Int), key, (a3 : Int), (a4 : Int), (a5 : Int), (a6 : Int), (a7 : Int), (a8 : Int), (a9 : Int), (a10 : Int)⟩ (.slice p n cap))] w fun e w' => (∃ v, e = .returned (.tuple #[v, .int .i64 0]) ∧ Ow w' w.heap.size v (cmdB ⟨a0, a1, a3, a4, a5, a6, a7, a8, a9, a10, keyB key, ns⟩)) ∧ Kp (fun _ => False) w w' := by
  have HSm : Hid (∀ x ∈ [a0, a1, a3, a4, a5, a6, a7, a8, a9, a10, key.size], x < 9223372036854775808) := fun x hx => by
    rcases (show x ∈ [a0, a1, a3, a4, a5, a6, a7, a8, a9, a10] ∨ x = key.size by simp only [List.mem_cons, List.not_mem_nil, or_false] at hx ⊢; omega) with h | h
    · have := hs x h
      omega
    · omega
  have HF : Hid (Fl w Z p (ns.map (fun x : Nat => Value.int .i64 (x : Int)))) := hf
  have HZ : Hid (∀ b, Z b → b < w.heap.size) := hZ
  have HN : Hid (n = ns.length ∧ n ≤ 255 ∧ key.size ≤ 8) := ⟨hn, hn9, hk⟩
  have HNz : Hid (∀ x ∈ ns, x < 9223372036854775808) := fun x hx => by have := hz x hx; omega
  have HM : Hid (∀ u, Kp (fun _ => False) w u → Calls Tryd.prog 25 #[.agg (cmdA ⟨(a0 : Int), (a1 : Int), key, (a3 : Int), (a4 : Int), (a5 : Int), (a6 : Int), (a7 : Int), (a8 : Int), (a9 : Int), (a10 : Int)⟩ (.slice p n cap))] u fun e w' => e = .returned (.bool true) ∧ Kp (fun _ => False) u w') := hM
  have HK0 : Hid (Kp (fun _ => False) w (w.alloc (.cells (cmdA ⟨(a0 : Int), (a1 : Int), key, (a3 : Int), (a4 : Int), (a5 : Int), (a6 : Int), (a7 : Int), (a8 : Int), (a9 : Int), (a10 : Int)⟩ (.slice p n cap)) 27))) := (Kp.refl _ _).alloc _
  have HL0 : Hid (Lv (w.alloc (.cells (cmdA ⟨(a0 : Int), (a1 : Int), key, (a3 : Int), (a4 : Int), (a5 : Int), (a6 : Int), (a7 : Int), (a8 : Int), (a9 : Int), (a10 : Int)⟩ (.slice p n cap)) 27)) w.heap.size (cmdA ⟨(a0 : Int), (a1 : Int), key, (a3 : Int), (a4 : Int), (a5 : Int), (a6 : Int), (a7 : Int), (a8 : Int), (a9 : Int), (a10 : Int)⟩ (.slice p n cap)).toList) := Lv.new w _ _
  have hks : (key.size : Int) ≤ 8 := by omega
  have hns : (n : Int) ≤ 255 := by omega
  have h8' : (a8 : Int) < 4294967296 := by omega
  clear hf hZ hn hn9 hk hz hs hM h8
  go_enter Tryd.func8, Tryd.ntmps8
  go_upto_region 1 with fail
  obtain ⟨u0, hu0⟩ : ∃ x, x = w.alloc (.cells (cmdA ⟨(a0 : Int), (a1 : Int), key, (a3 : Int), (a4 : Int), (a5 : Int), (a6 : Int), (a7 : Int), (a8 : Int), (a9 : Int), (a10 : Int)⟩ (.slice p n cap)) 27) := ⟨_, rfl⟩
  have hu0' := hu0.symm
  simp only [cmdA] at hu0'
  rw [hu0']
  rw [← hu0] at HK0 HL0
  have HU0 : Hid (w.heap.size < u0.heap.size) := by
    have h9 : u0.heap.size = w.heap.size + 1 := by rw [hu0]; simp
    show _ < _
    omega
  clear hu0 hu0'
  obtain ⟨g, hg⟩ : ∃ x, x = w.heap.size := ⟨_, rfl⟩
  have HG : Hid (g = w.heap.size) := hg
  rw [← hg] at HL0 ⊢
  clear hg
  go_wp2_with (refine wpList_load_all rfl 27 _ rfl 12 g (cmdA ⟨(a0 : Int), (a1 : Int), key, (a3 : Int), (a4 : Int), (a5 : Int), (a6 : Int), (a7 : Int), (a8 : Int), (a9 : Int), (a10 : Int)⟩ (.slice p n cap)).toList rfl HL0.out dsCmd szCmd rfl ?_)
  refine (HM.out u0 HK0.out).mono ?_
  rintro e9 u1 ⟨rfl, k1⟩
  have HK1 : Hid (Kp (fun _ => False) w u1) := HK0.out.trans k1 (fun _ _ e => e)
  have HL1 : Hid (Lv u1 g (cmdA ⟨(a0 : Int), (a1 : Int), key, (a3 : Int), (a4 : Int), (a5 : Int), (a6 : Int), (a7 : Int), (a8 : Int), (a9 : Int), (a10 : Int)⟩ (.slice p n cap)).toList) := HL0.out.keep k1 id
  have HU1 : Hid (g < u1.heap.size) := by have := HU0.out; have := HG.out; have := k1.size; show _ < _; omega
  clear k1 HL0 HK0
  have c0 : u1.cell? ⟨g, 0, none⟩ = some (.int .i64 (a0 : Int)) := HL1.out.cell (j := 0) rfl
  have c1 : u1.cell? ⟨g, 1, none⟩ = some (.int .i64 (a1 : Int)) := HL1.out.cell (j := 1) rfl
  have c2 : u1.cell? ⟨g, 2, none⟩ = some (.string key) := HL1.out.cell (j := 2) rfl
  have c3 : u1.cell? ⟨g, 3, none⟩ = some (.int .i64 (a3 : Int)) := HL1.out.cell (j := 3) rfl
  have c4 : u1.cell? ⟨g, 4, none⟩ = some (.int .i64 (a4 : Int)) := HL1.out.cell (j := 4) rfl
  have c5 : u1.cell? ⟨g, 5, none⟩ = some (.int .i64 (a5 : Int)) := HL1.out.cell (j := 5) rfl
  have c6 : u1.cell? ⟨g, 6, none⟩ = some (.int .i64 (a6 : Int)) := HL1.out.cell (j := 6) rfl
  have c7 : u1.cell? ⟨g, 7, none⟩ = some (.int .i64 (a7 : Int)) := HL1.out.cell (j := 7) rfl
  have c8 : u1.cell? ⟨g, 8, none⟩ = some (.int .u32 (a8 : Int)) := HL1.out.cell (j := 8) rfl
  have c9 : u1.cell? ⟨g, 9, none⟩ = some (.int .i64 (a9 : Int)) := HL1.out.cell (j := 9) rfl
  have c10 : u1.cell? ⟨g, 10, none⟩ = some (.int .i64 (a10 : Int)) := HL1.out.cell (j := 10) rfl
  have c11 : u1.cell? ⟨g, 11, none⟩ = some (.slice p n cap) := HL1.out.cell (j := 11) rfl
  have HNu : Hid (Calls Tryd.prog 26 #[.slice (some ⟨u1.heap.size, 0, none⟩) 11 11] (u1.alloc (.cells #[.int .i64 (a0 : Int), .int .i64 (a1 : Int), .int .i64 (a3 : Int), .int .i64 (a4 : Int), .int .i64 (a5 : Int), .int .i64 (a6 : Int), .int .i64 (a7 : Int), .int .i64 (a8 : Int), .int .i64 (a9 : Int), .int .i64 (a10 : Int), .int .i64 (key.size : Int)] 3)) fun e w' => ∃ v, e = .returned v ∧ Ow w' (u1.heap.size + 1) v (numsB [a0, a1, a3, a4, a5, a6, a7, a8, a9, a10, key.size]) ∧ Kp (fun _ => False) u1 w') := by
    have hl := Lv.new u1 #[.int .i64 (a0 : Int), .int .i64 (a1 : Int), .int .i64 (a3 : Int), .int .i64 (a4 : Int), .int .i64 (a5 : Int), .int .i64 (a6 : Int), .int .i64 (a7 : Int), .int .i64 (a8 : Int), .int .i64 (a9 : Int), .int .i64 (a10 : Int), .int .i64 (key.size : Int)] 3
    refine (rnums_ok (fun _ => True) (some ⟨u1.heap.size, 0, none⟩) 11 11 [a0, a1, a3, a4, a5, a6, a7, a8, a9, a10, key.size] _ (fun j y hj => ⟨_, _, rfl, trivial, ?_⟩) rfl (by decide) HSm.out).mono ?_
    · rw [Nat.zero_add]
      exact hl.cell hj
    · rintro e w' ⟨v, rfl, ho, hk⟩
      refine ⟨v, rfl, ?_, ((Kp.refl (fun _ => False) u1).alloc _).trans hk (fun _ _ e => e)⟩
      rw [show (u1.alloc (.cells #[.int .i64 (a0 : Int), .int .i64 (a1 : Int), .int .i64 (a3 : Int), .int .i64 (a4 : Int), .int .i64 (a5 : Int), .int .i64 (a6 : Int), .int .i64 (a7 : Int), .int .i64 (a8 : Int), .int .i64 (a9 : Int), .int .i64 (a10 : Int), .int .i64 (key.size : Int)] 3)).heap.size = u1.heap.size + 1 by simp] at ho
      exact ho
  go_wp2_with fail
  refine HNu.out.mono ?_
  rintro e9 w1 ⟨v1, rfl, o1, k1⟩
  have HK2 : Hid (Kp (fun _ => False) w w1) := HK1.out.trans k1 (fun _ _ e => e)
  have HL2 : Hid (Lv w1 g (cmdA ⟨(a0 : Int), (a1 : Int), key, (a3 : Int), (a4 : Int), (a5 : Int), (a6 : Int), (a7 : Int), (a8 : Int), (a9 : Int), (a10 : Int)⟩ (.slice p n cap)).toList) := HL1.out.keep k1 id
  have HO1 : Hid (Ow w1 (u1.heap.size + 1) v1 (numsB [a0, a1, a3, a4, a5, a6, a7, a8, a9, a10, key.size])) := o1
  have HB1 : Hid (u1.heap.size + 1 ≤ w1.heap.size ∨ u1.heap.size ≤ w1.heap.size) := Or.inr k1.size
  have HLn : Hid ((numsB [a0, a1, a3, a4, a5, a6, a7, a8, a9, a10, key.size]).length ≤ 99) := numsB_len [a0, a1, a3, a4, a5, a6, a7, a8, a9, a10, key.size] HSm.out
  clear o1 k1 c0 c1 c2 c3 c4 c5 c6 c7 c8 c9 c10 c11 HNu HL1
  obtain ⟨base, hbase⟩ : ∃ x, x = w.heap.size + 1 := ⟨_, rfl⟩
  have HBs : Hid (base = w.heap.size + 1 ∧ base ≤ w1.heap.size) := ⟨hbase, by have h1 := HU1.out; have h2 := HG.out; rcases HB1.out with h | h <;> omega⟩
  have HO2 : Hid (Ow w1 base v1 (numsB [a0, a1, a3, a4, a5, a6, a7, a8, a9, a10, key.size])) := ownsRow_base HO1.out (by have h1 := HU1.out; have h2 := HG.out; have h3 := HBs.out; omega)
  clear hbase HO1 HB1
  go_upto_region 4 with fail
  refine xb_region ⟨by kernel_rfl, by kernel_rfl, by kernel_rfl, by kernel_rfl, by kernel_rfl, by kernel_rfl, by kernel_rfl, by kernel_rfl, by kernel_rfl, by kernel_rfl, by kernel_rfl, by kernel_rfl, by kernel_rfl, by kernel_rfl, by kernel_rfl, by kernel_rfl, by kernel_rfl, by kernel_rfl⟩ g key p n cap base v1 (numsB [a0, a1, a3, a4, a5, a6, a7, a8, a9, a10, key.size]) (fun d _ _ _ _ h => by cases d <;> exact h) (by rfl) (by rfl) (by rfl) ⟨HL2.out.cell (j := 2) rfl, HL2.out.cell (j := 11) rfl⟩ HO2.out (by have := HG.out; have := HBs.out; omega) HBs.out.2 (by have := HLn.out; omega) HN.out.2.2 HN.out.2.1 ?_
  intro v3 v7 v8 w8 o8 k8 b8
  simp only [Act.put, List.setIfInBounds_toArray, List.set_cons_succ, List.set_cons_zero]
  have HK8 : Hid (Kp (fun _ => False) w w8) := HK2.out.trans k8 (fun b hb e => by have := HBs.out; omega)
  have HL8 : Hid (Lv w8 g (cmdA ⟨(a0 : Int), (a1 : Int), key, (a3 : Int), (a4 : Int), (a5 : Int), (a6 : Int), (a7 : Int), (a8 : Int), (a9 : Int), (a10 : Int)⟩ (.slice p n cap)).toList) := HL2.out.keep k8 (fun e => by have := HBs.out; have := HG.out; omega)
  have HO8 : Hid (Ow w8 base v8 (numsB [a0, a1, a3, a4, a5, a6, a7, a8, a9, a10, key.size] ++ keyB key ++ numB n)) := o8
  have HBw : Hid (base ≤ w8.heap.size) := b8
  clear o8 k8 b8 HK2 HL2 HO2
  have c11 : w8.cell? ⟨g, 11, none⟩ = some (.slice p n cap) := HL8.out.cell (j := 11) rfl
  have HNz2 : Hid (Calls _ _ _ w8 _) := rnums_ok Z p n cap ns w8 (HF.out.keep HK8.out (fun _ _ => id)) HN.out.1 (by have := HN.out; omega) HNz.out
  go_wp2_with fail
  refine HNz2.out.mono ?_
  rintro e9 w9 ⟨v9, rfl, o9, k9⟩
  have HK9 : Hid (Kp (fun _ => False) w w9) := HK8.out.trans k9 (fun _ _ e => e)
  have HO9 : Hid (Ow w9 base v8 (numsB [a0, a1, a3, a4, a5, a6, a7, a8, a9, a10, key.size] ++ keyB key ++ numB n)) := ownsRow_keep HO8.out k9 (fun _ _ => id)
  have HLs : Hid ((numsB ns).length ≤ 9 * 255) := by have h1 := numsB_len ns HNz.out; have h2 := HN.out; show _ ≤ _; omega
  have HLa : Hid ((numsB [a0, a1, a3, a4, a5, a6, a7, a8, a9, a10, key.size] ++ keyB key ++ numB n).length ≤ 200) := by
    have h1 := HLn.out
    have h2 := numB_len (n := n) (by have := HN.out; omega)
    have h3 := HN.out
    show _ ≤ _
    rw [List.length_append, List.length_append, keyB_len]
    omega
  obtain ⟨p9, c9, rfl, hrb⟩ := o9.src (fun x hx => by
    unfold numsB at hx
    obtain ⟨y, hy, hxy⟩ := List.mem_flatMap.1 hx
    exact numB_byte (HNz.out y hy) x hxy)
  have HRb : Hid (Rb w9 p9 (numsB ns).length (numsB ns)) := hrb
  have HBk : Hid (base ≤ w9.heap.size) := Nat.le_trans HBw.out k9.size
  clear o9 k9 hrb
  go_wp2_with (at_builtin; refine wpList_append_bytes w9 rfl _ _ rfl base v8 (numsB [a0, a1, a3, a4, a5, a6, a7, a8, a9, a10, key.size] ++ keyB key ++ numB n) rfl HO9.out p9 (numsB ns).length c9 (numsB ns) rfl HRb.out (by have := HLs.out; have := HLa.out; omega) HBk.out ?_; intro vF wF oF kF bF)
  have HKF : Hid (Kp (fun _ => False) w wF) := HK9.out.trans kF (fun b hb e => by have := (ownBlock_lt HO9.out e).1; have := HBs.out; omega)
  have HOF : Hid (Ow wF w.heap.size vF (numsB [a0, a1, a3, a4, a5, a6, a7, a8, a9, a10, key.size] ++ keyB key ++ numB n ++ numsB ns)) := ownsRow_base oF (by have := HBs.out; omega)
  clear oF kF bF
  go_ret2
  refine ⟨⟨vF, rfl, ?_⟩, HKF.out⟩
  have := HOF.out
  unfold cmdB
  dsimp only
  rw [keyB_len, ← HN.out.1]
  simp only [List.append_assoc] at this ⊢
  exact this

set_option maxRecDepth 100000 in
set_option maxHeartbeats 1600000 in
theorem xcmdw_no (c : Cs0) (p : Option Addr) (n cap : Nat) (w : World) (hM : ∀ u, Kp (fun _ => False) w u → Calls Tryd.prog 25 #[.agg (cmdA c (.slice p n cap))] u fun e w' => e = .returned (.bool false) ∧ Kp (fun _ => False) u w') :
    Calls Tryd.prog 8 #[.agg (cmdA c (.slice p n cap))] w fun e w' => e = .returned (.tuple #[.slice none 0 0, .int .i64 1]) ∧ Kp (fun _ => False) w w' := by
  have HK0 : Hid (Kp (fun _ => False) w (w.alloc (.cells (cmdA c (.slice p n cap)) 27))) := (Kp.refl _ _).alloc _
  have HL0 : Hid (Lv (w.alloc (.cells (cmdA c (.slice p n cap)) 27)) w.heap.size (cmdA c (.slice p n cap)).toList) := Lv.new w _ _
  obtain ⟨xa, hxa⟩ : ∃ x, x = cmdA c (.slice p n cap) := ⟨_, rfl⟩
  have HXl : Hid (xa.toList.length = 12) := by rw [hxa]; rfl
  rw [← hxa] at HK0 HL0 hM ⊢
  have HM : Hid (∀ u, Kp (fun _ => False) w u → Calls Tryd.prog 25 #[.agg xa] u fun e w' => e = .returned (.bool false) ∧ Kp (fun _ => False) u w') := hM
  clear hxa hM
  obtain ⟨dC, hdC⟩ := dsCmd
  go_enter Tryd.func8, Tryd.ntmps8
  go_upto_region 1 with fail
  obtain ⟨u0, hu0⟩ : ∃ x, x = w.alloc (.cells xa 27) := ⟨_, rfl⟩
  rw [← hu0] at HK0 HL0 ⊢
  clear hu0
  go_wp2_with (refine wpList_load_all rfl 27 _ rfl 12 w.heap.size xa.toList rfl HL0.out ⟨dC, hdC⟩ szCmd HXl.out ?_; rw [Array.toArray_toList])
  refine (HM.out u0 HK0.out).mono ?_
  rintro e9 w1 ⟨rfl, k1⟩
  have HK1 : Hid (Kp (fun _ => False) w w1) := HK0.out.trans k1 (fun _ _ e => e)
  clear k1
  go_wp2_with fail
  go_ret2
  exact ⟨rfl, HK1.out⟩

theorem xcmdw_ok (c : Cs0) (Z : Nat → Prop) (p : Option Addr) (n cap : Nat) (zs : List Int) (w : World) (hf : Fl w Z p (zs.map encI)) (hZ : ∀ b, Z b → b < w.heap.size) (hn : n = zs.length) (hn9 : n ≤ 1000000000000000) (hk9 : c.key.size ≤ 9223372036854775807) (hs : 0 ≤ c.sum ∧ c.sum < 4294967296) :
    Calls Tryd.prog 8 #[.agg (cmdA c (.slice p n cap))] w fun e w' => CmdRes c zs w e w' ∧ Kp (fun _ => False) w w' := by
  have hMay := fun u (k : Kp (fun _ => False) w u) => rmayCmd_ok c Z p n cap zs u (hf.keep k (fun _ _ => id)) hn hn9 hk9
  cases hm : mayC c zs with
  | false =>
    rw [hm] at hMay
    refine (xcmdw_no c p n cap w hMay).mono ?_
    rintro e w' ⟨rfl, k⟩
    refine ⟨?_, k⟩
    unfold CmdRes
    rw [hm]
    rfl
  | true =>
    rw [hm] at hMay
    have hF := mayC_full hm
    obtain ⟨a0, a1, key, a3, a4, a5, a6, a7, a8, a9, a10⟩ := c
    have hmn := hF.n
    have hmk := hF.key
    have hml := hF.len
    have hmz := hF.z
    dsimp only at hmn hmk hs
    simp only [List.mem_cons, List.not_mem_nil, or_false, forall_eq_or_imp, forall_eq] at hmn
    obtain ⟨m0, m1, m3, m4, m5, m6, m7, m9, m10⟩ := hmn
    obtain ⟨a0, rfl⟩ := nat_of m0.1
    obtain ⟨a1, rfl⟩ := nat_of m1.1
    obtain ⟨a3, rfl⟩ := nat_of m3.1
    obtain ⟨a4, rfl⟩ := nat_of m4.1
    obtain ⟨a5, rfl⟩ := nat_of m5.1
    obtain ⟨a6, rfl⟩ := nat_of m6.1
    obtain ⟨a7, rfl⟩ := nat_of m7.1
    obtain ⟨a8, rfl⟩ := nat_of hs.1
    obtain ⟨a9, rfl⟩ := nat_of m9.1
    obtain ⟨a10, rfl⟩ := nat_of m10.1
    rw [ints_nat (fun z hz => (hmz z hz).1)] at hf
    refine (xcmdw_yes a0 a1 a3 a4 a5 a6 a7 a8 a9 a10 key Z p n cap (zs.map Int.toNat) w hf hZ (by rw [List.length_map]; exact hn) hmk (by omega) (fun x hx => ?_) (by omega) (fun x hx => ?_) hMay).mono ?_
    · simp only [List.mem_cons, List.not_mem_nil, or_false] at hx
      omega
    · obtain ⟨z, hz, rfl⟩ := List.mem_map.1 hx
      have := hmz z hz
      omega
    · rintro e w' ⟨h, k⟩
      refine ⟨?_, k⟩
      unfold CmdRes
      rw [hm]
      exact h
end Go.Proofs.YtoepemgflbmlcaaDoor

/- frame.Msg. -/
namespace Go.Proofs.YtoepemgflbmlcaaDoor
set_option linter.unusedVariables false
set_option linter.unusedSimpArgs false
open Go.RowKit Go.Deep

/-- what a message that may be is like -/
structure MayMF (μ : Ms) : Prop where
  v9 : μ.votes.length ≤ 1000
  b9 : μ.bytes.length ≤ 2000
  k : 1 ≤ μ.s.kind ∧ μ.s.kind ≤ 15
  n : ∀ z ∈ [μ.s.kind, μ.s.src, μ.s.dst, μ.s.ballot, μ.s.slot, μ.s.blob, μ.s.index, μ.s.epoch, μ.s.id], 0 ≤ z ∧ z ≤ 1152921504606846976
  c : mayC μ.s.c μ.nodes = true
  v : ∀ v ∈ μ.votes, mayVo v = true
theorem mayM_full {μ : Ms} (h : mayM μ = true) : MayMF μ := by
  unfold mayM at h
  simp only [Bool.and_eq_true, decide_eq_true_eq] at h
  obtain ⟨h1, h2, h3, h4, h5, h6, h7, h8⟩ := h
  have m5 := upTo_mem h5
  have m6 := upTo_mem h6
  simp only [List.mem_cons, List.not_mem_nil, or_false, forall_eq_or_imp, forall_eq] at m5 m6
  refine ⟨h1, h2, ⟨h3, h4⟩, fun z hz => ?_, h7, fun v hv => List.all_eq_true.1 h8 v hv⟩
  simp only [List.mem_cons, List.not_mem_nil, or_false] at hz
  rcases hz with rfl | rfl | rfl | rfl | rfl | rfl | rfl | rfl | rfl <;> omega
theorem appM_ok (Z : Nat → Prop) (μ : Ms) (v : Value) (w : World) (h : Mr w Z μ v) (hZ : ∀ b, Z b → b < w.heap.size) (hg : goodM μ) (hm : mayM μ = true) :
    Calls Tryd.prog 40 #[.slice none 0 0, v] w fun e w' => ∃ v', e = .returned v' ∧ Ap w w' w.heap.size (.slice none 0 0) v' (msgB (mpOf μ)) := by
  obtain ⟨p, cp, pv, cv, l, pb, cb, rfl, h1, h2, h3, h4, h5, h6, h7, h8, h9⟩ := h
  have hF := mayM_full hm
  obtain ⟨s, nodes, votes, bytes⟩ := μ
  obtain ⟨k0, k1, k2, k3, k4, k5, k6, k7, k8, ok, c⟩ := s
  have hn := hF.n
  have hfv := hF.v
  have hfc := hF.c
  have hf9 := hF.v9
  have hfb := hF.b9
  simp only at h1 h2 h3 h4 h5 h6 h7 h8 h9 hn hfv hfc hf9 hfb
  subst h3
  simp only [List.mem_cons, List.not_mem_nil, or_false, forall_eq_or_imp, forall_eq] at hn
  obtain ⟨m0, m1, m2, m3, m4, m5, m6, m7, m8⟩ := hn
  obtain ⟨k0, rfl⟩ := nat_of m0.1
  obtain ⟨k1, rfl⟩ := nat_of m1.1
  obtain ⟨k2, rfl⟩ := nat_of m2.1
  obtain ⟨k3, rfl⟩ := nat_of m3.1
  obtain ⟨k4, rfl⟩ := nat_of m4.1
  obtain ⟨k5, rfl⟩ := nat_of m5.1
  obtain ⟨k6, rfl⟩ := nat_of m6.1
  obtain ⟨k7, rfl⟩ := nat_of m7.1
  obtain ⟨k8, rfl⟩ := nat_of m8.1
  refine (appM_nat w.heap.size (.slice none 0 0) [] k0 k1 k2 k3 k4 k5 k6 k7 k8 ok c Z p pv pb nodes.length cp l.length cv bytes.length cb nodes l bytes w (World.ownsRow_nil _ _ _ _) (Nat.le_refl _) (Nat.zero_le _) h1 rfl h4 h5 rfl (fl_rb h7 h8) (fun a ha hp => ?_) (fun b hb => ⟨by simp [Value.ownBlock], hZ b hb⟩) (fun x hx => ?_) hfc hg.1 (fun x hx => ⟨hfv x.1 (List.mem_map.2 ⟨x, hx, rfl⟩), hg.2 x.1 (List.mem_map.2 ⟨x, hx, rfl⟩)⟩) (by rw [List.length_map] at hf9; exact hf9) hfb).mono ?_
  · obtain ⟨b, o, e, hz, _⟩ := h7 0 _ (vl_get hp)
    rw [ha] at e
    injection e with e
    subst e
    exact hz
  · simp only [List.mem_cons, List.not_mem_nil, or_false] at hx
    omega
  · rintro e w' ⟨v', rfl, ha⟩
    exact ⟨v', rfl, ha⟩
/-- what Msg answers -/
def MsgRes (μ : Ms) (w : World) (e : Ending) (w' : World) : Prop :=
  if mayM μ = true then ∃ v, e = .returned (.tuple #[v, .int .i64 0]) ∧ Ow w' w.heap.size v (msgB (mpOf μ)) else e = .returned (.tuple #[.slice none 0 0, .int .i64 1])

set_option maxRecDepth 100000 in
set_option maxHeartbeats 1600000 in
theorem fmsg_ok (Z : Nat → Prop) (μ : Ms) (v : Value) (w : World) (h : Mr w Z μ v) (hZ : ∀ b, Z b → b < w.heap.size) (hg : goodM μ) :
    Calls Tryd.prog 14 #[v] w fun e w' => MsgRes μ w e w' ∧ Kp (fun _ => False) w w' := by
  have HM : Hid (∀ u, Kp (fun _ => False) w u → Calls Tryd.prog 39 #[v] u fun e w' => e = .returned (.bool (mayM μ)) ∧ Kp (fun _ => False) u w') := fun u k => mayMsg_ok Z μ v u (h.keep k (fun _ _ => id)) hg
  have HA : Hid (mayM μ = true → ∀ u, Kp (fun _ => False) w u → Calls Tryd.prog 40 #[.slice none 0 0, v] u fun e w' => ∃ v', e = .returned v' ∧ Ap u w' u.heap.size (.slice none 0 0) v' (msgB (mpOf μ))) := fun hm u k => appM_ok Z μ v u (h.keep k (fun _ _ => id)) (fun b hb => Nat.lt_of_lt_of_le (hZ b hb) k.size) hg hm
  have HX : Hid (∃ xa : Array Value, v = .agg xa ∧ xa.toList.length = 24) := by
    obtain ⟨p, cp, pv, cv, l, pb, cb, rfl, _⟩ := h
    exact ⟨_, rfl, rfl⟩
  obtain ⟨xa, hv, hxl⟩ := HX.out
  subst hv
  have HXl : Hid (xa.toList.length = 24) := hxl
  have HK0 : Hid (Kp (fun _ => False) w (w.alloc (.cells xa 40))) := (Kp.refl _ _).alloc _
  have HL0 : Hid (Lv (w.alloc (.cells xa 40)) w.heap.size xa.toList) := Lv.new w _ _
  obtain ⟨B, hB⟩ : ∃ b, b = mayM μ := ⟨_, rfl⟩
  have HB : Hid (B = mayM μ) := hB
  rw [← hB] at HM HA
  clear h hZ hg hB hxl HX
  obtain ⟨dM, hdM⟩ := dsMsg
  go_enter Tryd.func14, Tryd.ntmps14
  go_upto_region 1 with fail
  obtain ⟨u0, hu0⟩ : ∃ x, x = w.alloc (.cells xa 40) := ⟨_, rfl⟩
  rw [← hu0] at HK0 HL0 ⊢
  clear hu0
  go_wp2_with (refine wpList_load_all rfl 40 _ rfl 24 w.heap.size xa.toList rfl HL0.out ⟨dM, hdM⟩ szMsg HXl.out ?_; rw [Array.toArray_toList])
  refine (HM.out u0 HK0.out).mono ?_
  rintro e9 w1 ⟨rfl, k1⟩
  have HK1 : Hid (Kp (fun _ => False) w w1) := HK0.out.trans k1 (fun _ _ e => e)
  have HL1 : Hid (Lv w1 w.heap.size xa.toList) := HL0.out.keep k1 id
  clear k1
  cases B with
  | false =>
    go_wp2_with fail
    go_ret2
    refine ⟨?_, HK1.out⟩
    unfold MsgRes
    rw [← HB.out]
    rfl
  | true =>
    go_wp2_with (refine wpList_load_all rfl 40 _ rfl 24 w.heap.size xa.toList rfl HL1.out ⟨dM, hdM⟩ szMsg HXl.out ?_; rw [Array.toArray_toList])
    refine (HA.out (by trivial) w1 HK1.out).mono ?_
    rintro e9 w2 ⟨v2, rfl, h2⟩
    have HA2 : Hid (Ap w1 w2 w1.heap.size (.slice none 0 0) v2 (msgB (mpOf μ))) := h2
    clear h2
    go_wp2_with fail
    go_ret2
    refine ⟨?_, HK1.out.trans HA2.out.k (fun b _ e => by simp [Value.ownBlock] at e)⟩
    unfold MsgRes
    rw [← HB.out]
    exact ⟨v2, rfl, ownsRow_base HA2.out.o HK1.out.size⟩
end Go.Proofs.YtoepemgflbmlcaaDoor
