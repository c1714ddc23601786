/- Texts of this proof, joined: Nm2, Nn. -/
import Derived.Test.YtoepemgflbmlcaaDoorMgAU
import Derived.Deep.DeepCutAuto
/- The document's nums, Fine, nodes. -/
namespace Go.Proofs.YtoepemgflbmlcaaDoor
set_option linter.unusedVariables false
set_option linter.unusedSimpArgs false
open Go.RowKit Go.Deep

theorem numB_byte {n : Nat} (h : n < 9223372036854775808) : ∀ x ∈ numB n, x < 256 := fun x hx => by
  rcases List.mem_cons.1 hx with e | e
  · have := numW8 h
    omega
  · exact digs_lt _ _ x e
theorem numB_len {n : Nat} (h : n < 9223372036854775808) : (numB n).length ≤ 9 := by
  have := numW8 h
  show (_ :: digs _ _).length ≤ _
  rw [List.length_cons, digs_len]
  omega

set_option maxRecDepth 100000 in
set_option maxHeartbeats 1600000 in
theorem rnums_ok (Z : Nat → Prop) (q : Option Addr) (n c : Nat) (ns : List Nat) (w : World) (h : Fl w Z q (ns.map (fun x : Nat => Value.int .i64 (x : Int)))) (hn : n = ns.length) (hn9 : n ≤ 1000) (hs : ∀ x ∈ ns, x < 9223372036854775808) :
    Calls Tryd.prog 26 #[.slice q n c] w fun e w' => ∃ v, e = .returned v ∧ Ow w' w.heap.size v (numsB ns) ∧ Kp (fun _ => False) w w' := by
  have HF : Hid (Fl w Z q (ns.map (fun x : Nat => Value.int .i64 (x : Int)))) := h
  have HN : Hid (n = ns.length ∧ n ≤ 1000) := ⟨hn, hn9⟩
  have HS : Hid (∀ x ∈ ns, x < 9223372036854775808) := hs
  have hn9' : (n : Int) ≤ 1000 := by omega
  have HNu : Hid (∀ x : Nat, x < 9223372036854775808 → ∀ u, Calls _ _ _ u _) := fun x hx u => rnum_ok x hx u
  clear h hn hn9 hs
  go_enter Tryd.func26, Tryd.ntmps26
  go_wp2_with fail
  go_loopg [3, 8] n (fun gk bv iv wz => ∃ (k : Nat) (v1 : Value), k ≤ n ∧ gk = n - k ∧ iv = .int .i64 k ∧ v1 = bv ∧ Hid (Ow wz w.heap.size v1 (numsB (ns.take k))) ∧ Hid (Kp (fun _ => False) w wz))
  case atStart => exact ⟨0, _, Nat.zero_le _, rfl, rfl, rfl, World.ownsRow_nil _ _ _ _, Kp.refl _ _⟩
  case round =>
    obtain ⟨k, v1, hk, rfl, rfl, rfl, HO, HK⟩ := hrel
    by_cases hlt : (k : Int) < (n : Int)
    · have hkl : k < ns.length := by have := HN.out; omega
      obtain ⟨x, hx⟩ : ∃ x, ns[k]? = some x := ⟨_, List.getElem?_eq_getElem hkl⟩
      have HX9 : Hid (x < 9223372036854775808) := HS.out x (List.mem_of_getElem? hx)
      obtain ⟨b, o, rfl, hzb, hc⟩ := HF.out k (.int .i64 (x : Int)) (by rw [List.getElem?_map, hx]; rfl)
      have hc' : wr.cell? ⟨b, o + k, none⟩ = some (.int .i64 (x : Int)) := HK.out.cellv hc id
      have HX : Hid (ns[k]? = some x) := hx
      have HKi : Hid (wrap64 ((k : Int) + 1) = ((k + 1 : Nat) : Int)) := wrapK9 (by have := HN.out; omega)
      have HLe : Hid ((numsB (ns.take k)).length ≤ 9000) := by
        have h1 := numsB_len (ns.take k) (fun y hy => HS.out y (List.mem_of_mem_take hy))
        rw [List.length_take] at h1
        have := HN.out
        show _ ≤ _
        omega
      clear hc hx hkl hzb
      go_wp2_with fail
      refine (HNu.out x HX9.out wr).mono ?_
      rintro e9 w1 ⟨v2, rfl, o2, k2⟩
      obtain ⟨p2, c2, rfl, hrb⟩ := o2.src (numB_byte HX9.out)
      have HRb : Hid (Rb w1 p2 (numB x).length (numB x)) := hrb
      have HK1 : Hid (Kp (fun _ => False) w w1) := HK.out.trans k2 (fun _ _ e => e)
      have HO1 : Hid (Ow w1 w.heap.size v1 (numsB (ns.take k))) := ownsRow_keep HO.out k2 (fun _ _ => id)
      clear o2 k2 hrb
      go_wp2_with (at_builtin; refine wpList_append_bytes w1 rfl _ _ rfl w.heap.size v1 (numsB (ns.take k)) rfl HO1.out p2 (numB x).length c2 (numB x) rfl HRb.out (by have := HLe.out; have := numB_len HX9.out; omega) HK1.out.size ?_; intro v3 w3 o3 k3 b3)
      have HO3 : Hid (Ow w3 w.heap.size v3 (numsB (ns.take (k + 1)))) := by
        show Ow _ _ _ _
        rw [numsB_take HX.out]
        exact o3
      have HK3 : Hid (Kp (fun _ => False) w w3) := HK1.out.trans k3 (fun b hb e => by have := (ownBlock_lt HO1.out e).1; omega)
      clear o3 k3 b3
      go_roundg (n - (k + 1))
      case rel => exact ⟨k + 1, v3, by omega, rfl, by first | rw [HKi.out] | rfl | go_num, rfl, HO3.out, HK3.out⟩
      case measure => omega
    · have hkn : ns.take k = ns := List.take_of_length_le (by have := HN.out; omega)
      rw [hkn] at HO
      clear hkn
      go_wp2_with fail
      go_ret
      exact ⟨v1, rfl, HO.out, HK.out⟩

/-- a number from 0 to the greatest -/
def fineB (z : Int) : Bool := decide (0 ≤ z ∧ z ≤ 1152921504606846976)

set_option maxRecDepth 100000 in
set_option maxHeartbeats 800000 in
theorem rfine_ok (z : Int) (w : World) : Calls Tryd.prog 50 #[.int .i64 z] w fun e w' => e = .returned (.bool (fineB z)) ∧ w' = w := by
  by_cases h0 : (0 : Int) ≤ z
  · by_cases h1 : z ≤ 1152921504606846976
    · have HV : Hid (fineB z = true) := decide_eq_true ⟨h0, h1⟩
      go_enter Tryd.func50, Tryd.ntmps50
      go_wp2_with fail
      go_ret
      exact ⟨by rw [HV.out]; rfl, rfl⟩
    · have HV : Hid (fineB z = false) := decide_eq_false (fun h => h1 h.2)
      go_enter Tryd.func50, Tryd.ntmps50
      go_wp2_with fail
      go_ret
      exact ⟨by rw [HV.out]; rfl, rfl⟩
  · have HV : Hid (fineB z = false) := decide_eq_false (fun h => h0 h.1)
    go_enter Tryd.func50, Tryd.ntmps50
    go_wp2_with fail
    go_ret
    exact ⟨by rw [HV.out]; rfl, rfl⟩

/-- the document's word on nodes -/
def nodesB (zs : List Int) : Bool := upTo 15 zs && decide (zs.length ≤ 255)

set_option maxRecDepth 100000 in
set_option maxHeartbeats 1600000 in
theorem rnodes_ok (Z : Nat → Prop) (q : Option Addr) (n c : Nat) (zs : List Int) (w : World) (h : Fl w Z q (zs.map encI)) (hn : n = zs.length) (hn9 : n ≤ 1000000000000000) :
    Calls Tryd.prog 53 #[.slice q n c] w fun e w' => e = .returned (.bool (nodesB zs)) ∧ w' = w := by
  have HF : Hid (Fl w Z q (zs.map encI)) := h
  have HN : Hid (n = zs.length ∧ n ≤ 1000000000000000) := ⟨hn, hn9⟩
  have hn9' : (n : Int) ≤ 1000000000000000 := by omega
  clear h hn hn9
  go_enter Tryd.func53, Tryd.ntmps53
  go_wp2_with fail
  go_loopg [7] n (fun gk iv wz => ∃ k : Nat, k ≤ n ∧ gk = n - k ∧ iv = .int .i64 k ∧ w = wz ∧ Hid (∀ (i : Nat) (z : Int), i < k → zs[i]? = some z → 0 ≤ z ∧ z ≤ 15))
  case atStart => exact ⟨0, Nat.zero_le _, rfl, rfl, rfl, fun i z hi => absurd hi (Nat.not_lt_zero _)⟩
  case round =>
    obtain ⟨k, hk, rfl, rfl, rfl, HT⟩ := hrel
    by_cases hlt : (k : Int) < (n : Int)
    · have hkl : k < zs.length := by have := HN.out; omega
      obtain ⟨z, hz⟩ : ∃ z, zs[k]? = some z := ⟨_, List.getElem?_eq_getElem hkl⟩
      obtain ⟨b, o, rfl, _, hc⟩ := HF.out k (encI z) (by rw [List.getElem?_map, hz]; rfl)
      have hc' : w.cell? ⟨b, o + k, none⟩ = some (.int .i64 z) := hc
      have HZ : Hid (zs[k]? = some z) := hz
      have HKi : Hid (wrap64 ((k : Int) + 1) = ((k + 1 : Nat) : Int)) := (by have := HN.out; show _ = _; unfold wrap64; omega)
      clear hc hz hkl
      have HRf : Hid (¬ (0 ≤ z ∧ z ≤ 15) → nodesB zs = false) := fun hno => by
        cases q : nodesB zs with
        | false => rfl
        | true =>
          unfold nodesB at q
          rw [Bool.and_eq_true] at q
          exact absurd (upTo_at.1 q.1 k z HZ.out) hno
      by_cases h0 : z < 0
      · have HR : Hid (nodesB zs = false) := HRf.out (by omega)
        go_wp2_with fail
        go_ret
        exact ⟨by rw [HR.out]; rfl, rfl⟩
      · by_cases hm : (15 : Int) < z
        · have HR : Hid (nodesB zs = false) := HRf.out (by omega)
          go_wp2_with fail
          go_ret
          exact ⟨by rw [HR.out]; rfl, rfl⟩
        · have HO : Hid (0 ≤ z ∧ z ≤ 15) := ⟨by omega, by omega⟩
          go_wp2_with fail
          go_roundg (n - (k + 1))
          case rel =>
            refine ⟨k + 1, by omega, rfl, by first | rw [HKi.out] | rfl | go_num, rfl, fun i y hi hy => ?_⟩
            by_cases e : i = k
            · subst e
              rw [HZ.out] at hy
              cases hy
              exact HO.out
            · exact HT.out i y (by omega) hy
          case measure => omega
    · have HU : Hid (upTo 15 zs = true) := upTo_at.2 (fun i z hz => HT.out i z (by have := HN.out; have := (List.getElem?_eq_some_iff.1 hz).1; omega) hz)
      by_cases hl : (n : Int) ≤ 255
      · have HR : Hid (nodesB zs = true) := by
          show _ = _
          unfold nodesB
          rw [HU.out, decide_eq_true (show zs.length ≤ 255 by have := HN.out; omega)]
          rfl
        go_wp2_with fail
        go_ret
        exact ⟨by rw [HR.out]; rfl, rfl⟩
      · have HR : Hid (nodesB zs = false) := by
          show _ = _
          unfold nodesB
          rw [HU.out, decide_eq_false (show ¬ zs.length ≤ 255 by have := HN.out; omega)]
          rfl
        go_wp2_with fail
        go_ret
        exact ⟨by rw [HR.out]; rfl, rfl⟩
end Go.Proofs.YtoepemgflbmlcaaDoor

/- The document's MayCmd (laid by scripts/mknn.py). -/
namespace Go.Proofs.YtoepemgflbmlcaaDoor
set_option linter.unusedVariables false
set_option linter.unusedSimpArgs false
open Go.RowKit Go.Deep

def codeB (k m : Int) : Bool := decide (0 ≤ k) && (decide (k ≤ 255) && (decide (0 ≤ m) && decide (m ≤ 255)))
def restB (kind node : Int) (cB : Bool) (ks : Nat) (nB : Bool) : Bool := decide (0 ≤ kind) && (decide (kind ≤ 12) && (decide (0 ≤ node) && (decide (node ≤ 15) && (cB && (decide (ks ≤ 8) && nB)))))
theorem mayR_same (c : Cs0) (zs : List Int) : (upTo 1152921504606846976 [c.id, c.blob, c.other, c.index, c.size] && restB c.kind c.node (codeB c.k c.m) c.key.size (nodesB zs)) = mayC c zs := by
  unfold mayC restB codeB nodesB
  rw [Bool.eq_iff_iff]
  have e2 : upTo 255 [c.k, c.m] = true ↔ (0 ≤ c.k ∧ c.k ≤ 255) ∧ (0 ≤ c.m ∧ c.m ≤ 255) := by unfold upTo; simp
  have e1 : upTo 15 [c.node] = true ↔ 0 ≤ c.node ∧ c.node ≤ 15 := by unfold upTo; simp
  simp only [Bool.and_eq_true, decide_eq_true_eq, e2, e1]
  constructor
  · rintro ⟨h1, h2, h3, h4, h5, ⟨h6, h7, h8, h9⟩, h10, h11, h12⟩
    exact ⟨h10, h12, h2, h3, h1, ⟨⟨h6, h7⟩, h8, h9⟩, ⟨h4, h5⟩, h11⟩
  · rintro ⟨h10, h12, h2, h3, h1, ⟨⟨h6, h7⟩, h8, h9⟩, ⟨h4, h5⟩, h11⟩
    exact ⟨h1, h2, h3, h4, h5, ⟨h6, h7, h8, h9⟩, h10, h11, h12⟩

set_option maxRecDepth 100000 in
set_option maxHeartbeats 6400000 in
theorem rmayCmd_ok (c : Cs0) (Z : Nat → Prop) (p : Option Addr) (n cap : Nat) (zs : List Int) (w : World) (h : Fl w Z p (zs.map encI)) (hn : n = zs.length) (hn9 : n ≤ 1000000000000000) (hk9 : c.key.size ≤ 9223372036854775807) :
    Calls Tryd.prog 25 #[.agg (cmdA c (.slice p n cap))] w fun e w' => e = .returned (.bool (mayC c zs)) ∧ Kp (fun _ => False) w w' := by
  rw [← mayR_same]
  have HNo : Hid (∀ u, Kp (fun _ => False) w u → Calls Tryd.prog 53 #[.slice p n cap] u fun e w' => e = .returned (.bool (nodesB zs)) ∧ w' = u) := fun u ku => rnodes_ok Z p n cap zs u (h.keep ku (fun _ _ => id)) hn hn9
  have HFi : Hid (∀ z u, Calls _ _ _ u _) := rfine_ok
  obtain ⟨nB, hnB⟩ : ∃ b, b = nodesB zs := ⟨_, rfl⟩
  rw [← hnB] at HNo ⊢
  clear h hnB
  obtain ⟨idd, kind, key, blob, other, index, node, size, sum, kk, mm⟩ := c
  dsimp only at hk9 ⊢
  obtain ⟨cB, hcB⟩ : ∃ b, b = codeB kk mm := ⟨_, rfl⟩
  have HCB : Hid (cB = codeB kk mm) := hcB
  obtain ⟨R, hR⟩ : ∃ R, R = restB kind node cB key.size nB := ⟨_, rfl⟩
  have HR : Hid (R = restB kind node cB key.size nB) := hR
  rw [← hcB, ← hR]
  obtain ⟨zs5, hz5⟩ : ∃ l, l = [idd, blob, other, index, size] := ⟨_, rfl⟩
  have HZ5 : Hid (zs5 = [idd, blob, other, index, size]) := hz5
  rw [← hz5]
  clear hcB hR hz5
  have HK0 : Hid (Kp (fun _ => False) w (w.alloc (.cells (cmdA ⟨idd, kind, key, blob, other, index, node, size, sum, kk, mm⟩ (.slice p n cap)) 27))) := (Kp.refl _ _).alloc _
  have HL0 : Hid (Lv (w.alloc (.cells (cmdA ⟨idd, kind, key, blob, other, index, node, size, sum, kk, mm⟩ (.slice p n cap)) 27)) w.heap.size (cmdA ⟨idd, kind, key, blob, other, index, node, size, sum, kk, mm⟩ (.slice p n cap)).toList) := Lv.new w _ _
  have hks : (key.size : Int) ≤ 9223372036854775807 := by omega
  have hns : (n : Int) ≤ 1000000000000000 := by omega
  clear hn hn9 hk9
  go_enter Tryd.func25, Tryd.ntmps25
  go_upto_region 1 with fail
  obtain ⟨u0, hu0⟩ : ∃ x, x = w.alloc (.cells (cmdA ⟨idd, kind, key, blob, other, index, node, size, sum, kk, mm⟩ (.slice p n cap)) 27) := ⟨_, rfl⟩
  have hu0' := hu0.symm
  simp only [cmdA] at hu0'
  rw [hu0']
  rw [← hu0] at HK0 HL0
  clear hu0 hu0'
  obtain ⟨g, hg⟩ : ∃ x, x = w.heap.size := ⟨_, rfl⟩
  rw [← hg] at HL0 ⊢
  clear hg
  have c0 : u0.cell? ⟨g, 0, none⟩ = some (.int .i64 idd) := HL0.out.cell (j := 0) rfl
  have c1 : u0.cell? ⟨g, 1, none⟩ = some (.int .i64 kind) := HL0.out.cell (j := 1) rfl
  have c2 : u0.cell? ⟨g, 2, none⟩ = some (.string key) := HL0.out.cell (j := 2) rfl
  have c3 : u0.cell? ⟨g, 3, none⟩ = some (.int .i64 blob) := HL0.out.cell (j := 3) rfl
  have c4 : u0.cell? ⟨g, 4, none⟩ = some (.int .i64 other) := HL0.out.cell (j := 4) rfl
  have c5 : u0.cell? ⟨g, 5, none⟩ = some (.int .i64 index) := HL0.out.cell (j := 5) rfl
  have c6 : u0.cell? ⟨g, 6, none⟩ = some (.int .i64 node) := HL0.out.cell (j := 6) rfl
  have c7 : u0.cell? ⟨g, 7, none⟩ = some (.int .i64 size) := HL0.out.cell (j := 7) rfl
  have c9 : u0.cell? ⟨g, 9, none⟩ = some (.int .i64 kk) := HL0.out.cell (j := 9) rfl
  have c10 : u0.cell? ⟨g, 10, none⟩ = some (.int .i64 mm) := HL0.out.cell (j := 10) rfl
  have c11 : u0.cell? ⟨g, 11, none⟩ = some (.slice p n cap) := HL0.out.cell (j := 11) rfl
  have HK1 : Hid (Kp (fun _ => False) w (u0.alloc (.cells #[.int .i64 idd, .int .i64 blob, .int .i64 other, .int .i64 index, .int .i64 size] 3))) := HK0.out.alloc _
  have HL1 : Hid (Lv (u0.alloc (.cells #[.int .i64 idd, .int .i64 blob, .int .i64 other, .int .i64 index, .int .i64 size] 3)) g (cmdA ⟨idd, kind, key, blob, other, index, node, size, sum, kk, mm⟩ (.slice p n cap)).toList) := HL0.out.keep ((Kp.refl (fun _ => False) _).alloc _) id
  have HL2 : Hid (Lv (u0.alloc (.cells #[.int .i64 idd, .int .i64 blob, .int .i64 other, .int .i64 index, .int .i64 size] 3)) u0.heap.size [.int .i64 idd, .int .i64 blob, .int .i64 other, .int .i64 index, .int .i64 size]) := Lv.new u0 #[.int .i64 idd, .int .i64 blob, .int .i64 other, .int .i64 index, .int .i64 size] _
  go_upto_region 2 with fail
  obtain ⟨u1, hu1⟩ : ∃ x, x = u0.alloc (.cells #[.int .i64 idd, .int .i64 blob, .int .i64 other, .int .i64 index, .int .i64 size] 3) := ⟨_, rfl⟩
  rw [← hu1] at HK1 HL1 HL2 ⊢
  obtain ⟨g5, hg5⟩ : ∃ x, x = u0.heap.size := ⟨_, rfl⟩
  rw [← hg5] at HL2 ⊢
  clear hu1 hg5 c0 c1 c2 c3 c4 c5 c6 c7 c9 c10 c11
  have d1 : u1.cell? ⟨g, 1, none⟩ = some (.int .i64 kind) := HL1.out.cell (j := 1) rfl
  have d2 : u1.cell? ⟨g, 2, none⟩ = some (.string key) := HL1.out.cell (j := 2) rfl
  have d6 : u1.cell? ⟨g, 6, none⟩ = some (.int .i64 node) := HL1.out.cell (j := 6) rfl
  have d9 : u1.cell? ⟨g, 9, none⟩ = some (.int .i64 kk) := HL1.out.cell (j := 9) rfl
  have d10 : u1.cell? ⟨g, 10, none⟩ = some (.int .i64 mm) := HL1.out.cell (j := 10) rfl
  have d11 : u1.cell? ⟨g, 11, none⟩ = some (.slice p n cap) := HL1.out.cell (j := 11) rfl
  have HC5 : Hid (∀ (j : Nat) (z : Int), zs5[j]? = some z → u1.cell? ⟨g5, j, none⟩ = some (.int .i64 z)) := fun j z hz => by
    rw [HZ5.out] at hz
    exact HL2.out.cell (by
      have := congrArg (Option.map (Value.int .i64)) hz
      rw [← List.getElem?_map] at this
      exact this)
  have HL5 : Hid (zs5.length = 5) := by rw [HZ5.out]; rfl
  clear HZ5
  go_loopg [18] 5 (fun gk iv wz => ∃ k : Nat, k ≤ 5 ∧ gk = 5 - k ∧ iv = .int .i64 k ∧ u1 = wz ∧ Hid (∀ (i : Nat) (z : Int), i < k → zs5[i]? = some z → 0 ≤ z ∧ z ≤ 1152921504606846976))
  case atStart => exact ⟨0, Nat.zero_le _, rfl, rfl, rfl, fun i z hi => absurd hi (Nat.not_lt_zero _)⟩
  case round =>
    obtain ⟨k, hk, rfl, rfl, rfl, HT⟩ := hrel
    by_cases hlt : (k : Int) < 5
    · obtain ⟨z, hz⟩ : ∃ z, zs5[k]? = some z := ⟨_, List.getElem?_eq_getElem (by have := HL5.out; omega)⟩
      have hc' := HC5.out k z hz
      have HZ : Hid (zs5[k]? = some z) := hz
      clear hz
      go_wp2_with fail
      refine (HFi.out z u1).mono ?_
      rintro e9 w9 ⟨rfl, hw9⟩
      have hw8 := hw9.symm
      subst hw8
      clear hw9
      obtain ⟨fB, hfB⟩ : ∃ b, b = fineB z := ⟨_, rfl⟩
      have HFB : Hid (fB = fineB z) := hfB
      rw [← hfB]
      clear hfB
      cases fB with
      | false =>
        have HV : Hid (upTo 1152921504606846976 zs5 = false) := by
          show _ = _
          cases q : upTo 1152921504606846976 zs5 with
          | false => rfl
          | true =>
            have h1 := upTo_at.1 q k z HZ.out
            have h2 := HFB.out
            unfold fineB at h2
            rw [decide_eq_true h1] at h2
            cases h2
        go_wp2_with fail
        go_ret
        exact ⟨by rw [HV.out]; rfl, HK1.out⟩
      | true =>
        have HO : Hid (0 ≤ z ∧ z ≤ 1152921504606846976) := (by
          have h2 := HFB.out.symm
          unfold fineB at h2
          have h3 : 0 ≤ z ∧ z ≤ 1152921504606846976 := of_decide_eq_true h2
          exact h3)
        go_wp2_with fail
        go_roundg (5 - (k + 1))
        case rel =>
          refine ⟨k + 1, by omega, rfl, by first | rfl | go_num, rfl, fun i y hi hy => ?_⟩
          by_cases e : i = k
          · subst e
            rw [HZ.out] at hy
            cases hy
            exact HO.out
          · exact HT.out i y (by omega) hy
        case measure => omega
    · have HU : Hid (upTo 1152921504606846976 zs5 = true) := upTo_at.2 (fun i z hz => HT.out i z (by have := HL5.out; have := (List.getElem?_eq_some_iff.1 hz).1; omega) hz)
      clear HT HC5 HL5
      go_upto_region 7 with fail
      go_cut [5] (fun v wz => v = .bool cB ∧ u1 = wz)
      case first =>
        by_cases q0 : (0 : Int) ≤ kk
        · by_cases q1 : kk ≤ 255
          · by_cases q2 : (0 : Int) ≤ mm
            · by_cases q3 : mm ≤ 255
              · have HV : Hid (cB = true) := by
                  show _ = _
                  rw [HCB.out]
                  unfold codeB
                  rw [decide_eq_true (show (0 : Int) ≤ kk from by omega)]
                  rw [decide_eq_true (show kk ≤ 255 from by omega)]
                  rw [decide_eq_true (show (0 : Int) ≤ mm from by omega)]
                  rw [decide_eq_true (show mm ≤ 255 from by omega)]
                  simp
                go_wp2_with fail
                go_meet
                exact ⟨by rw [HV.out], rfl⟩
              · have HV : Hid (cB = false) := by
                  show _ = _
                  rw [HCB.out]
                  unfold codeB
                  rw [decide_eq_true (show (0 : Int) ≤ kk from by omega)]
                  rw [decide_eq_true (show kk ≤ 255 from by omega)]
                  rw [decide_eq_true (show (0 : Int) ≤ mm from by omega)]
                  rw [decide_eq_false (show ¬ mm ≤ 255 from by omega)]
                  simp
                go_wp2_with fail
                go_meet
                exact ⟨by rw [HV.out], rfl⟩
            · have HV : Hid (cB = false) := by
                show _ = _
                rw [HCB.out]
                unfold codeB
                rw [decide_eq_true (show (0 : Int) ≤ kk from by omega)]
                rw [decide_eq_true (show kk ≤ 255 from by omega)]
                rw [decide_eq_false (show ¬ (0 : Int) ≤ mm from by omega)]
                simp
              go_wp2_with fail
              go_meet
              exact ⟨by rw [HV.out], rfl⟩
          · have HV : Hid (cB = false) := by
              show _ = _
              rw [HCB.out]
              unfold codeB
              rw [decide_eq_true (show (0 : Int) ≤ kk from by omega)]
              rw [decide_eq_false (show ¬ kk ≤ 255 from by omega)]
              simp
            go_wp2_with fail
            go_meet
            exact ⟨by rw [HV.out], rfl⟩
        · have HV : Hid (cB = false) := by
            show _ = _
            rw [HCB.out]
            unfold codeB
            rw [decide_eq_false (show ¬ (0 : Int) ≤ kk from by omega)]
            simp
          go_wp2_with fail
          go_meet
          exact ⟨by rw [HV.out], rfl⟩
      case rest =>
        obtain ⟨rfl, rfl⟩ := hcut
        clear HCB
        by_cases r0 : (0 : Int) ≤ kind
        · by_cases r1 : kind ≤ 12
          · by_cases r2 : (0 : Int) ≤ node
            · by_cases r3 : node ≤ 15
              · cases cB with
                | true =>
                  by_cases r5 : (key.size : Int) ≤ 8
                  · go_wp2_with fail
                    refine (HNo.out u1 HK1.out).mono ?_
                    rintro e9 w9 ⟨rfl, hw9⟩
                    have hw8 := hw9.symm
                    subst hw8
                    clear hw9
                    cases nB with
                    | true =>
                      have HV : Hid (R = true) := by
                        show _ = _
                        rw [HR.out]
                        unfold restB
                        rw [decide_eq_true (show (0 : Int) ≤ kind from by omega)]
                        rw [decide_eq_true (show kind ≤ 12 from by omega)]
                        rw [decide_eq_true (show (0 : Int) ≤ node from by omega)]
                        rw [decide_eq_true (show node ≤ 15 from by omega)]
                        rw [decide_eq_true (show key.size ≤ 8 from by omega)]
                        simp
                      clear HR
                      go_wp2_with fail
                      go_ret
                      exact ⟨by rw [HU.out, HV.out]; rfl, HK1.out⟩
                    | false =>
                      have HV : Hid (R = false) := by
                        show _ = _
                        rw [HR.out]
                        unfold restB
                        rw [decide_eq_true (show (0 : Int) ≤ kind from by omega)]
                        rw [decide_eq_true (show kind ≤ 12 from by omega)]
                        rw [decide_eq_true (show (0 : Int) ≤ node from by omega)]
                        rw [decide_eq_true (show node ≤ 15 from by omega)]
                        rw [decide_eq_true (show key.size ≤ 8 from by omega)]
                        simp
                      clear HR
                      go_wp2_with fail
                      go_ret
                      exact ⟨by rw [HU.out, HV.out]; rfl, HK1.out⟩
                  · have HV : Hid (R = false) := by
                      show _ = _
                      rw [HR.out]
                      unfold restB
                      rw [decide_eq_true (show (0 : Int) ≤ kind from by omega)]
                      rw [decide_eq_true (show kind ≤ 12 from by omega)]
                      rw [decide_eq_true (show (0 : Int) ≤ node from by omega)]
                      rw [decide_eq_true (show node ≤ 15 from by omega)]
                      rw [decide_eq_false (show ¬ key.size ≤ 8 from by omega)]
                      simp
                    clear HR
                    go_wp2_with fail
                    go_ret
                    exact ⟨by rw [HU.out, HV.out]; rfl, HK1.out⟩
                | false =>
                  have HV : Hid (R = false) := by
                    show _ = _
                    rw [HR.out]
                    unfold restB
                    rw [decide_eq_true (show (0 : Int) ≤ kind from by omega)]
                    rw [decide_eq_true (show kind ≤ 12 from by omega)]
                    rw [decide_eq_true (show (0 : Int) ≤ node from by omega)]
                    rw [decide_eq_true (show node ≤ 15 from by omega)]
                    simp
                  clear HR
                  go_wp2_with fail
                  go_ret
                  exact ⟨by rw [HU.out, HV.out]; rfl, HK1.out⟩
              · have HV : Hid (R = false) := by
                  show _ = _
                  rw [HR.out]
                  unfold restB
                  rw [decide_eq_true (show (0 : Int) ≤ kind from by omega)]
                  rw [decide_eq_true (show kind ≤ 12 from by omega)]
                  rw [decide_eq_true (show (0 : Int) ≤ node from by omega)]
                  rw [decide_eq_false (show ¬ node ≤ 15 from by omega)]
                  simp
                clear HR
                go_wp2_with fail
                go_ret
                exact ⟨by rw [HU.out, HV.out]; rfl, HK1.out⟩
            · have HV : Hid (R = false) := by
                show _ = _
                rw [HR.out]
                unfold restB
                rw [decide_eq_true (show (0 : Int) ≤ kind from by omega)]
                rw [decide_eq_true (show kind ≤ 12 from by omega)]
                rw [decide_eq_false (show ¬ (0 : Int) ≤ node from by omega)]
                simp
              clear HR
              go_wp2_with fail
              go_ret
              exact ⟨by rw [HU.out, HV.out]; rfl, HK1.out⟩
          · have HV : Hid (R = false) := by
              show _ = _
              rw [HR.out]
              unfold restB
              rw [decide_eq_true (show (0 : Int) ≤ kind from by omega)]
              rw [decide_eq_false (show ¬ kind ≤ 12 from by omega)]
              simp
            clear HR
            go_wp2_with fail
            go_ret
            exact ⟨by rw [HU.out, HV.out]; rfl, HK1.out⟩
        · have HV : Hid (R = false) := by
            show _ = _
            rw [HR.out]
            unfold restB
            rw [decide_eq_false (show ¬ (0 : Int) ≤ kind from by omega)]
            simp
          clear HR
          go_wp2_with fail
          go_ret
          exact ⟨by rw [HU.out, HV.out]; rfl, HK1.out⟩
end Go.Proofs.YtoepemgflbmlcaaDoor
