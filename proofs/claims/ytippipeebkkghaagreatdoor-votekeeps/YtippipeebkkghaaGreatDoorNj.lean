/- frame.appendCmd (laid by scripts/mknj.py). -/
import Derived.Test.YtippipeebkkghaaGreatDoorNi
namespace Go.Proofs.YtippipeebkkghaaGreatDoor
set_option linter.unusedVariables false
set_option linter.unusedSimpArgs false
open Go.RowKit Go.Deep

theorem nat_of {z : Int} (h : 0 ≤ z) : ∃ k : Nat, z = (k : Int) := ⟨z.toNat, by omega⟩
theorem Ap.apart {u w' : World} {base : Nat} {v v' : Value} {xs ys : List Nat} {g : Nat} (h : Ap u w' base v v' ys) (hg : g < u.heap.size) (hv : v.ownBlock ≠ some g) : v'.ownBlock ≠ some g := fun e => by
  rcases h.b g e with q | q
  · exact hv q
  · omega

set_option maxRecDepth 100000 in
set_option maxHeartbeats 6400000 in
theorem appC_nat (base : Nat) (v : Value) (xs : List Nat) (a0 a1 a3 a4 a5 a6 a7 a8 a9 a10 : Nat) (key : ByteArray) (Z : Nat → Prop) (p : Option Addr) (n cap : Nat) (ns : List Nat) (w : World) (ho : Ow w base v xs) (hb : base ≤ w.heap.size) (hf : Fl w Z p (ns.map (fun x : Nat => Value.int .i64 (x : Int)))) (hZ : ∀ b, Z b → v.ownBlock ≠ some b ∧ b < w.heap.size) (hn : n = ns.length)
    (hk : key.size ≤ 8) (hn9 : n ≤ 255) (hs : ∀ x ∈ [a0, a1, a3, a4, a5, a6, a7, a8, a9, a10], x ≤ 1152921504606846976) (h8 : a8 < 4294967296) (hz : ∀ x ∈ ns, x ≤ 15) (hl : xs.length ≤ 100000000) :
    Calls Tryz.prog 47 #[v, .agg (cmdA ⟨(a0 : Int), (a1 : Int), key, (a3 : Int), (a4 : Int), (a5 : Int), (a6 : Int), (a7 : Int), (a8 : Int), (a9 : Int), (a10 : Int)⟩ (.slice p n cap))] w fun e w' => ∃ v', e = .returned v' ∧ Ap w w' base v v' (xs ++ cmdB ⟨a0, a1, a3, a4, a5, a6, a7, a8, a9, a10, keyB key, ns⟩) := by
  simp only [List.mem_cons, List.not_mem_nil, or_false, forall_eq_or_imp, forall_eq] at hs
  obtain ⟨s0, s1, s3, s4, s5, s6, s7, s8, s9, s10⟩ := hs
  have HO : Hid (Ow w base v xs) := ho
  have HF : Hid (Fl w Z p (ns.map (fun x : Nat => Value.int .i64 (x : Int)))) := hf
  have HZ : Hid (∀ b, Z b → v.ownBlock ≠ some b ∧ b < w.heap.size) := hZ
  have HN : Hid (n = ns.length ∧ n ≤ 255 ∧ key.size ≤ 8 ∧ xs.length ≤ 100000000 ∧ base ≤ w.heap.size) := ⟨hn, hn9, hk, hl, hb⟩
  have HSm : Hid (∀ x ∈ [a0, a1, a3, a4, a5, a6, a7, a8, a9, a10], x < 9223372036854775808) := fun x hx => by
    simp only [List.mem_cons, List.not_mem_nil, or_false] at hx
    omega
  have HNz : Hid (∀ x ∈ ns, x < 9223372036854775808) := fun x hx => by have := hz x hx; omega
  have HK0 : Hid (Kp (fun _ => False) w (w.alloc (.cells (cmdA ⟨(a0 : Int), (a1 : Int), key, (a3 : Int), (a4 : Int), (a5 : Int), (a6 : Int), (a7 : Int), (a8 : Int), (a9 : Int), (a10 : Int)⟩ (.slice p n cap)) 31))) := (Kp.refl _ _).alloc _
  have HL0 : Hid (Lv (w.alloc (.cells (cmdA ⟨(a0 : Int), (a1 : Int), key, (a3 : Int), (a4 : Int), (a5 : Int), (a6 : Int), (a7 : Int), (a8 : Int), (a9 : Int), (a10 : Int)⟩ (.slice p n cap)) 31)) w.heap.size (cmdA ⟨(a0 : Int), (a1 : Int), key, (a3 : Int), (a4 : Int), (a5 : Int), (a6 : Int), (a7 : Int), (a8 : Int), (a9 : Int), (a10 : Int)⟩ (.slice p n cap)).toList) := Lv.new w _ _
  have HVg : Hid (v.ownBlock ≠ some w.heap.size) := fun e => by have := (ownBlock_lt ho e).2; omega
  have hks : (key.size : Int) ≤ 8 := by omega
  have hns : (n : Int) ≤ 255 := by omega
  have h8' : (a8 : Int) < 4294967296 := by omega
  clear ho hf hZ hn hn9 hk hl hb hz s0 s1 s3 s4 s5 s6 s7 s8 s9 s10
  go_enter Tryz.func47, Tryz.ntmps47
  go_upto_region 1 with fail
  obtain ⟨u0, hu0⟩ : ∃ x, x = w.alloc (.cells (cmdA ⟨(a0 : Int), (a1 : Int), key, (a3 : Int), (a4 : Int), (a5 : Int), (a6 : Int), (a7 : Int), (a8 : Int), (a9 : Int), (a10 : Int)⟩ (.slice p n cap)) 31) := ⟨_, rfl⟩
  have hu0' := hu0.symm
  simp only [cmdA] at hu0'
  rw [hu0']
  rw [← hu0] at HK0 HL0
  have HU0 : Hid (w.heap.size < u0.heap.size ∧ base ≤ u0.heap.size) := by
    have h1 := HN.out
    have h9 : u0.heap.size = w.heap.size + 1 := by rw [hu0]; simp
    exact ⟨by omega, by omega⟩
  have HA0 : Hid (Ap w u0 base v v xs) := ⟨by rw [hu0]; exact HO.out.alloc _, HK0.out.mono (fun _ _ e => e.elim), fun b e => Or.inl e⟩
  clear hu0 hu0'
  obtain ⟨g, hg⟩ : ∃ x, x = w.heap.size := ⟨_, rfl⟩
  rw [← hg] at HL0 HU0 HVg ⊢
  clear hg
  have c0 : u0.cell? ⟨g, 0, none⟩ = some (.int .i64 (a0 : Int)) := HL0.out.cell (j := 0) rfl
  have c1 : u0.cell? ⟨g, 1, none⟩ = some (.int .i64 (a1 : Int)) := HL0.out.cell (j := 1) rfl
  have c2 : u0.cell? ⟨g, 2, none⟩ = some (.string key) := HL0.out.cell (j := 2) rfl
  have c3 : u0.cell? ⟨g, 3, none⟩ = some (.int .i64 (a3 : Int)) := HL0.out.cell (j := 3) rfl
  have c4 : u0.cell? ⟨g, 4, none⟩ = some (.int .i64 (a4 : Int)) := HL0.out.cell (j := 4) rfl
  have c5 : u0.cell? ⟨g, 5, none⟩ = some (.int .i64 (a5 : Int)) := HL0.out.cell (j := 5) rfl
  have c6 : u0.cell? ⟨g, 6, none⟩ = some (.int .i64 (a6 : Int)) := HL0.out.cell (j := 6) rfl
  have c7 : u0.cell? ⟨g, 7, none⟩ = some (.int .i64 (a7 : Int)) := HL0.out.cell (j := 7) rfl
  have c8 : u0.cell? ⟨g, 8, none⟩ = some (.int .u32 (a8 : Int)) := HL0.out.cell (j := 8) rfl
  have c9 : u0.cell? ⟨g, 9, none⟩ = some (.int .i64 (a9 : Int)) := HL0.out.cell (j := 9) rfl
  have c10 : u0.cell? ⟨g, 10, none⟩ = some (.int .i64 (a10 : Int)) := HL0.out.cell (j := 10) rfl
  have c11 : u0.cell? ⟨g, 11, none⟩ = some (.slice p n cap) := HL0.out.cell (j := 11) rfl
  have H1 : Hid (Calls Tryz.prog 79 #[v, .slice (some ⟨u0.heap.size, 0, none⟩) 10 10] (u0.alloc (.cells #[.int .i64 (a0 : Int), .int .i64 (a1 : Int), .int .i64 (a3 : Int), .int .i64 (a4 : Int), .int .i64 (a5 : Int), .int .i64 (a6 : Int), .int .i64 (a7 : Int), .int .i64 (a8 : Int), .int .i64 (a9 : Int), .int .i64 (a10 : Int)] 3)) fun e w' => ∃ v', e = .returned v' ∧ Ap u0 w' base v v' (xs ++ numsB [a0, a1, a3, a4, a5, a6, a7, a8, a9, a10])) := appN_new base v xs [a0, a1, a3, a4, a5, a6, a7, a8, a9, a10] 10 u0 HA0.out.o HU0.out.2 rfl HSm.out (by have := HN.out; simp; omega)
  go_wp2_with fail
  refine H1.out.mono ?_
  rintro e9 w1 ⟨v1, rfl, h1⟩
  have HA1 : Hid (Ap u0 w1 base v v1 (xs ++ numsB [a0, a1, a3, a4, a5, a6, a7, a8, a9, a10])) := h1
  have HL1 : Hid (Lv w1 g (cmdA ⟨(a0 : Int), (a1 : Int), key, (a3 : Int), (a4 : Int), (a5 : Int), (a6 : Int), (a7 : Int), (a8 : Int), (a9 : Int), (a10 : Int)⟩ (.slice p n cap)).toList) := HL0.out.keep h1.k HVg.out
  have d2 : w1.cell? ⟨g, 2, none⟩ = some (.string key) := HL1.out.cell (j := 2) rfl
  have d11 : w1.cell? ⟨g, 11, none⟩ = some (.slice p n cap) := HL1.out.cell (j := 11) rfl
  have HE1 : Hid ((xs ++ numsB [a0, a1, a3, a4, a5, a6, a7, a8, a9, a10]).length ≤ 100000000 + 90 ∧ base ≤ w1.heap.size) := by
    have h2 := numsB_len [a0, a1, a3, a4, a5, a6, a7, a8, a9, a10] HSm.out
    have := HN.out
    have := h1.k.size
    have := HU0.out
    refine ⟨?_, by omega⟩
    rw [List.length_append]
    simp at h2
    omega
  clear h1 H1
  have H2 : Hid (Calls Tryz.prog 79 #[v1, .slice (some ⟨w1.heap.size, 0, none⟩) 1 1] (w1.alloc (.cells #[.int .i64 (key.size : Int)] 3)) fun e w' => ∃ v', e = .returned v' ∧ Ap w1 w' base v1 v' (xs ++ numsB [a0, a1, a3, a4, a5, a6, a7, a8, a9, a10] ++ numsB [key.size])) := appN_new base v1 (xs ++ numsB [a0, a1, a3, a4, a5, a6, a7, a8, a9, a10]) [key.size] 1 w1 HA1.out.o HE1.out.2 rfl (fun x hx => by rw [List.mem_singleton] at hx; have := HN.out; omega) (by have := HE1.out; simp only [List.length_cons, List.length_nil]; omega)
  go_wp2_with fail
  refine H2.out.mono ?_
  rintro e9 w2 ⟨v2, rfl, h2⟩
  have HA2 : Hid (Ap u0 w2 base v v2 (xs ++ numsB [a0, a1, a3, a4, a5, a6, a7, a8, a9, a10] ++ numsB [key.size])) := HA1.out.trans h2
  have HL2 : Hid (Lv w2 g (cmdA ⟨(a0 : Int), (a1 : Int), key, (a3 : Int), (a4 : Int), (a5 : Int), (a6 : Int), (a7 : Int), (a8 : Int), (a9 : Int), (a10 : Int)⟩ (.slice p n cap)).toList) := HL1.out.keep h2.k (HA1.out.apart (xs := xs) HU0.out.1 HVg.out)
  have f2 : w2.cell? ⟨g, 2, none⟩ = some (.string key) := HL2.out.cell (j := 2) rfl
  have f11 : w2.cell? ⟨g, 11, none⟩ = some (.slice p n cap) := HL2.out.cell (j := 11) rfl
  have HE2 : Hid ((xs ++ numsB [a0, a1, a3, a4, a5, a6, a7, a8, a9, a10] ++ numsB [key.size]).length ≤ 100000000 + 99 ∧ base ≤ w2.heap.size) := by
    have h3 := numsB_len [key.size] (fun x hx => by rw [List.mem_singleton] at hx; have := HN.out; omega)
    have := HE1.out
    have := h2.k.size
    refine ⟨?_, by omega⟩
    rw [List.length_append]
    simp only [List.length_cons, List.length_nil] at h3
    omega
  clear h2 H2
  go_upto_region 4 with (at_builtin; refine wpList_append_key w2 rfl _ _ rfl base v2 (xs ++ numsB [a0, a1, a3, a4, a5, a6, a7, a8, a9, a10] ++ numsB [key.size]) rfl HA2.out.o key rfl (by have := HE2.out; have := HN.out; omega) HE2.out.2 ?_; intro v3 w3 ho3 k3 hb3)
  have HA3 : Hid (Ap u0 w3 base v v3 (xs ++ numsB [a0, a1, a3, a4, a5, a6, a7, a8, a9, a10] ++ numsB [key.size] ++ keyB key)) := HA2.out.trans ⟨ho3, k3, fun b e => by
    rcases hb3 with q | q
    · exact Or.inl (q ▸ e)
    · rw [q] at e
      injection e with e
      exact Or.inr (by omega)⟩
  have HL3 : Hid (Lv w3 g (cmdA ⟨(a0 : Int), (a1 : Int), key, (a3 : Int), (a4 : Int), (a5 : Int), (a6 : Int), (a7 : Int), (a8 : Int), (a9 : Int), (a10 : Int)⟩ (.slice p n cap)).toList) := HL2.out.keep k3 (HA2.out.apart (xs := xs) HU0.out.1 HVg.out)
  have i11 : w3.cell? ⟨g, 11, none⟩ = some (.slice p n cap) := HL3.out.cell (j := 11) rfl
  have HE3 : Hid ((xs ++ numsB [a0, a1, a3, a4, a5, a6, a7, a8, a9, a10] ++ numsB [key.size] ++ keyB key).length ≤ 100000000 + 107 ∧ base ≤ w3.heap.size) := by
    have := HE2.out
    have := HN.out
    have := k3.size
    refine ⟨?_, by omega⟩
    rw [List.length_append, keyB_len]
    omega
  clear ho3 k3 hb3
  have H4 : Hid (Calls Tryz.prog 79 #[v3, .slice (some ⟨w3.heap.size, 0, none⟩) 1 1] (w3.alloc (.cells #[.int .i64 (n : Int)] 3)) fun e w' => ∃ v', e = .returned v' ∧ Ap w3 w' base v3 v' (xs ++ numsB [a0, a1, a3, a4, a5, a6, a7, a8, a9, a10] ++ numsB [key.size] ++ keyB key ++ numsB [n])) := appN_new base v3 (xs ++ numsB [a0, a1, a3, a4, a5, a6, a7, a8, a9, a10] ++ numsB [key.size] ++ keyB key) [n] 1 w3 HA3.out.o HE3.out.2 rfl (fun x hx => by rw [List.mem_singleton] at hx; have := HN.out; omega) (by have := HE3.out; simp only [List.length_cons, List.length_nil]; omega)
  go_wp2_with fail
  refine H4.out.mono ?_
  rintro e9 w4 ⟨v4, rfl, h4⟩
  have HA4 : Hid (Ap u0 w4 base v v4 (xs ++ numsB [a0, a1, a3, a4, a5, a6, a7, a8, a9, a10] ++ numsB [key.size] ++ keyB key ++ numsB [n])) := HA3.out.trans h4
  have HL4 : Hid (Lv w4 g (cmdA ⟨(a0 : Int), (a1 : Int), key, (a3 : Int), (a4 : Int), (a5 : Int), (a6 : Int), (a7 : Int), (a8 : Int), (a9 : Int), (a10 : Int)⟩ (.slice p n cap)).toList) := HL3.out.keep h4.k (HA3.out.apart (xs := xs) HU0.out.1 HVg.out)
  have j11 : w4.cell? ⟨g, 11, none⟩ = some (.slice p n cap) := HL4.out.cell (j := 11) rfl
  have HE4 : Hid ((xs ++ numsB [a0, a1, a3, a4, a5, a6, a7, a8, a9, a10] ++ numsB [key.size] ++ keyB key ++ numsB [n]).length ≤ 100000000 + 116 ∧ base ≤ w4.heap.size) := by
    have h5 := numsB_len [n] (fun x hx => by rw [List.mem_singleton] at hx; have := HN.out; omega)
    have := HE3.out
    have := h4.k.size
    refine ⟨?_, by omega⟩
    rw [List.length_append]
    simp only [List.length_cons, List.length_nil] at h5
    omega
  clear h4 H4
  have HF4 : Hid (Fl w4 Z p (ns.map (fun x : Nat => Value.int .i64 (x : Int)))) := (HF.out.keep HA0.out.k (fun b hb2 => (HZ.out b hb2).1)).keep HA4.out.k (fun b hb2 => (HZ.out b hb2).1)
  have HZ4 : Hid (∀ b, Z b → v4.ownBlock ≠ some b ∧ b < w4.heap.size) := fun b hb2 => by
    have h1 := HZ.out b hb2
    have h2 := HK0.out.size
    have h3 := HA4.out.k.size
    exact ⟨HA4.out.apart (xs := xs) (by omega) h1.1, by omega⟩
  have H5 : Hid (Calls _ _ _ w4 _) := appN_ok Z base v4 (xs ++ numsB [a0, a1, a3, a4, a5, a6, a7, a8, a9, a10] ++ numsB [key.size] ++ keyB key ++ numsB [n]) ns p n cap w4 HA4.out.o HE4.out.2 HF4.out HZ4.out HN.out.1 HNz.out (by have := HE4.out; have := HN.out; omega)
  go_wp2_with fail
  refine H5.out.mono ?_
  rintro e9 w5 ⟨v5, rfl, h5⟩
  have HA5 : Hid (Ap w w5 base v v5 (xs ++ numsB [a0, a1, a3, a4, a5, a6, a7, a8, a9, a10] ++ numsB [key.size] ++ keyB key ++ numsB [n] ++ numsB ns)) := HA0.out.trans (HA4.out.trans h5)
  clear h5 H5
  go_wp2
  go_ret
  refine ⟨v5, rfl, ?_⟩
  have := HA5.out
  unfold cmdB
  rw [show [a0, a1, a3, a4, a5, a6, a7, a8, a9, a10, (keyB key).length] = [a0, a1, a3, a4, a5, a6, a7, a8, a9, a10] ++ [(keyB key).length] from rfl, numsB_append, keyB_len]
  dsimp only
  rw [← HN.out.1, ← numsB_one n]
  simp only [List.append_assoc] at this ⊢
  exact this
end Go.Proofs.YtippipeebkkghaaGreatDoor
