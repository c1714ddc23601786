/- The Mem family (namespace Mf) beside Kb's: what keeps memory, bytes; stripe.Length and stripe.Cut; shards.Fit of nodes that fit. -/
import Derived.Test.YtmncocmeafcpfaaDoorMfS1
import Derived.Test.YtmncocmeafcpfaaDoorYb
import Derived.Test.YtmncocmeafcpfaaDoorFs
import Derived.Test.YtmncocmeafcpfaaDoorMz
namespace Go.Proofs.YtmncocmeafcpfaaDoor
set_option linter.unusedVariables false
set_option linter.unusedSimpArgs false
open Go.RowKit Go.Deep

theorem kp_of {S : Nat → Prop} {w w' : World} (h : Mf.Kp S w w') : Kp S w w' := ⟨h.os, h.tape, h.output, h.size, h.block⟩
theorem kp_to {S : Nat → Prop} {w w' : World} (h : Kp S w w') : Mf.Kp S w w' := ⟨h.os, h.tape, h.output, h.size, h.block⟩
theorem pows_keep {S : Nat → Prop} {w w' : World} (h : Mf.Pows w) (k : Kp S w w') (hb : ¬ S 1) : Mf.Pows w' := (kp_to k).pows h hb
theorem bs_of_rb {w : World} {p : Option Addr} {n c : Nat} {xs : List Nat} (h : Rb w p n xs) : Mf.Bs w (.slice p n c) n (fun i => xs.getD i 0) := by
  by_cases hn : 0 < n
  · obtain ⟨b, o, rfl, hc⟩ := h.pt hn
    exact ⟨_, b, o, c, rfl, fun _ _ => rfl, hc, fun k => h.byteAt k⟩
  · obtain rfl : n = 0 := by omega
    exact ⟨p, 0, 0, c, rfl, fun k hk => absurd hk (by omega), fun k hk => absurd hk (by omega), fun k => h.byteAt k⟩
theorem len_pos (K n : Nat) (h1 : 1 ≤ K) (hn : n ≤ 400) : 1 ≤ Mf.lenOf K n ∧ Mf.lenOf K n ≤ 100000 := by
  have := Mf.lenOf_bd (K := K) (size := n) h1 hn
  constructor
  · first | omega | (have h2 := this.1; omega)
  · first | omega | (have h2 := this.2; omega)
theorem length_ok (K M size : Nat) (w : World) (h1 : 1 ≤ (K : Int)) (h3 : (M : Int) ≤ 255 - (K : Int)) (hs : (size : Int) ≤ 400) :
    Calls Tryd.prog 95 #[.agg #[.int .i64 K, .int .i64 M], .int .i64 size] w fun e w' => e = .returned (.int .i64 (Mf.lenOf K size : Int)) ∧ Kp (fun _ => False) w w' :=
  (Mf.length_yes K M size w h1 h3 hs).mono fun e w' h => ⟨h.1, kp_of h.2⟩
theorem cut_ok (K M n c : Nat) (p : Option Addr) (xs : List Nat) (w : World) (h : Rb w p n xs) (h1 : 1 ≤ (K : Int)) (h3 : (M : Int) ≤ 255 - (K : Int)) (hl : (n : Int) ≤ 400) (hp : Mf.Pows w) :
    Calls Tryd.prog 101 #[.agg #[.int .i64 K, .int .i64 M], .slice p n c] w fun e w' =>
      ∃ t B, e = .returned (.tuple #[.slice (some ⟨t, 0, none⟩) (K + M) (K + M), .int .i64 0]) ∧ Kp (fun _ => False) w w' ∧ w.heap.size ≤ t ∧ (∀ i, i < K + M → w.heap.size ≤ B i) ∧ Mf.Mat w' t B (K + M) (Mf.lenOf K n) (Mf.enc K (Mf.cutAt K (fun i => xs.getD i 0) n)) :=
  (Mf.cut_yes K M n _ _ w (bs_of_rb h) h1 h3 hl hp).mono fun e w' h => by
    obtain ⟨t, B, he, hk, h5⟩ := h
    exact ⟨t, B, he, kp_of hk, h5⟩

/-- nodes, each once -/
structure Nds (zs : List Int) : Prop where
  rng : ∀ z ∈ zs, 0 ≤ z ∧ z < 16
  one : ∀ i j, (hi : i < zs.length) → (hj : j < zs.length) → j < i → zs[j] ≠ zs[i]

set_option maxRecDepth 100000 in
set_option maxHeartbeats 1600000 in
theorem fit_yes (K M size L : Nat) (p : Option Addr) (c : Nat) (Z : Nat → Prop) (zs : List Int) (w : World) (h1 : 1 ≤ (K : Int)) (h3 : (M : Int) ≤ 255 - (K : Int)) (hs : (size : Int) ≤ 400) (hf : Fl w Z p (zs.map encI)) (hL : Hid (L = zs.length ∧ L = K + M)) (hN : Hid (Nds zs)) (hc : Hid (L ≤ c)) :
    Calls Tryd.prog 57 #[.agg #[.int .i64 K, .int .i64 M], .int .i64 size, .slice p L c] w fun e w' => e = .returned (.bool true) ∧ Kp (fun _ => False) w w' := by
  have H1 : Hid (∀ z, Calls Tryd.prog 95 _ z _) := fun z => length_ok K M size z h1 h3 hs
  have H2 : Hid (∀ n z, Calls Tryd.prog 48 #[.int .i64 n] z _) := fun n z => isNode_ok n z
  have HF : Hid (Fl w Z p (zs.map encI)) := hf
  have HP : Hid ((0 : Int) < (Mf.lenOf K size : Int)) := by have := len_pos K size (by omega) (by omega); show _ < _; omega
  have HKM : Hid (1 ≤ K ∧ K + M ≤ 255) := ⟨by omega, by omega⟩
  obtain ⟨ln, hln⟩ : ∃ ln : Nat, ln = Mf.lenOf K size := ⟨_, rfl⟩
  rw [← hln] at H1 HP
  have hl : Lv (w.alloc (.cells #[.int .i64 K, .int .i64 M] 26)) w.heap.size [.int .i64 K, .int .i64 M] := Lv.new w _ _
  have k0 : Kp (fun _ => False) w (w.alloc (.cells #[.int .i64 K, .int .i64 M] 26)) := (Kp.refl _ _).alloc _
  have c0 := hl.cell (j := 0) rfl
  have c1 := hl.cell (j := 1) rfl
  have hp : (decide ((ln : Int) > 0)) = true := by have := HP.out; simp; omega
  have hsum : wrap64 ((K : Int) + (M : Int)) = (L : Int) := by
    have h5 := hL.out
    unfold wrap64
    omega
  clear hf hl h1 h3 hs hln
  go_enter Tryd.func57, Tryd.ntmps57
  go_wp2
  go_step3
  go_wp2_with (go_at_call 95; refine (H1.out _).mono ?_; rintro e w1 ⟨rfl, k1⟩; have d0 := k1.cellv c0 id; have d1 := k1.cellv c1 id; have HK1 : Hid (Kp (fun _ => False) w w1) := k0.trans k1 (fun _ _ e => e); have hpos : (ln : Int) > 0 := HP.out)
  go_step3
  go_wp2
  clear hsum
  go_loopg [7, 28] L (fun gk f i wr => ∃ (k : Nat), k ≤ L ∧ gk = L - k ∧ f = .bool true ∧ i = .int .i64 k ∧ wr = w1)
  case atStart => exact ⟨0, by omega, rfl, by first | rfl | simp, rfl, rfl⟩
  case round =>
    obtain ⟨k, hk, rfl, rfl, rfl, rfl⟩ := hrel
    obtain ⟨w1, rfl⟩ : ∃ x, x = wr := ⟨_, rfl⟩
    by_cases h : (k : Int) < (L : Int)
    · have hkl : k < zs.length := by have := hL.out; omega
      obtain ⟨b, o, rfl, _, e1⟩ := (HF.out.keep HK1.out (fun _ _ => id)) k (encI zs[k]) (by rw [List.getElem?_map, List.getElem?_eq_getElem hkl]; rfl)
      obtain ⟨z, hz⟩ : ∃ z, z = zs[k] := ⟨_, rfl⟩
      have hzn : (decide (0 ≤ z) && decide (z < 16)) = true := by
        have := hN.out.rng zs[k] (List.getElem_mem hkl)
        rw [← hz] at this
        simp [this.1, this.2]
      have H2z : Hid (Calls Tryd.prog 48 #[.int .i64 z] w1 fun e w' => e = .returned (.bool true) ∧ w' = w1) := by
        have := H2.out z w1
        rw [hzn] at this
        exact this
      rw [← hz] at e1
      have HK1k : Hid (wrap64 ((k : Int) + 1) = ((k + 1 : Nat) : Int)) := by have := HKM.out; have := hL.out; show _ = _; unfold wrap64; omega
      have HZ : Hid (∀ j, (hj : j < zs.length) → j < k → zs[j] ≠ z) := fun j hj hjk => by rw [hz]; exact hN.out.one k j hkl hj hjk
      have HC : Hid (k ≤ c) := by have := hc.out; show _ ≤ _; omega
      clear hz hzn
      go_wp2_with (go_at_call 48; refine H2z.out.mono ?_; rintro e w2 ⟨rfl, hw2⟩; obtain rfl := hw2.symm)
      go_loopg [7, 40] k (fun gk f i wr => ∃ (j : Nat), j ≤ k ∧ gk = k - j ∧ f = .bool true ∧ i = .int .i64 j ∧ wr = w1)
      case atStart => exact ⟨0, by omega, rfl, rfl, rfl, rfl⟩
      case round =>
        obtain ⟨j, hj, rfl, rfl, rfl, rfl⟩ := hrel
        by_cases h2 : (j : Int) < (k : Int)
        · have hjl : j < zs.length := by omega
          obtain ⟨b', o', eb, _, e2⟩ := (HF.out.keep HK1.out (fun _ _ => id)) j (encI zs[j]) (by rw [List.getElem?_map, List.getElem?_eq_getElem hjl]; rfl)
          obtain ⟨rfl, rfl⟩ : b' = b ∧ o' = o := by injection eb with eb; injection eb with x y; exact ⟨x.symm, y.symm⟩
          obtain ⟨y, hy⟩ : ∃ y, y = zs[j] := ⟨_, rfl⟩
          have hyz : (y == z) = false := by rw [hy]; simpa using HZ.out j hjl (by omega)
          have HK1j : Hid (wrap64 ((j : Int) + 1) = ((j + 1 : Nat) : Int)) := by have := HKM.out; have := hL.out; show _ = _; unfold wrap64; omega
          rw [← hy] at e2
          clear hy
          go_wp2
          go_roundg (k - (j + 1))
          case rel => exact ⟨j + 1, by omega, rfl, rfl, by first | rfl | rw [HK1j.out], rfl⟩
          case measure => omega
        · go_wp2
          go_roundg (L - (k + 1))
          case rel => exact ⟨k + 1, by omega, rfl, rfl, by first | rfl | rw [HK1k.out], rfl⟩
          case measure => omega
    · go_wp2
      try rw [Exit.noGoto_ret]
      go_ret
      exact ⟨rfl, HK1.out⟩
end Go.Proofs.YtmncocmeafcpfaaDoor
