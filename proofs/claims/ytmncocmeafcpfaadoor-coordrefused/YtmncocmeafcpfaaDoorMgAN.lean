/- Texts of this proof, joined: Mb, Yi, Yc, Yd. -/
import Derived.Test.YtmncocmeafcpfaaDoorMgAG
import Derived.Test.YtmncocmeafcpfaaDoorMgAL
import Derived.Test.YtmncocmeafcpfaaDoorMgAM
import Derived.Test.YtmncocmeafcpfaaDoorMgAI
import Derived.RegionTactic
import Derived.BigRegion
/- The Mem family (namespace Mf) beside Kb's: what keeps memory, bytes; stripe.Length and stripe.Cut; shards.Fit of nodes that fit. -/
namespace Go.Proofs.YtmncocmeafcpfaaDoor
set_option linter.unusedVariables false
set_option linter.unusedSimpArgs false
open Go.RowKit Go.Deep

theorem kp_of {S : Nat → Prop} {w w' : World} (h : Mf.Kp S w w') : Kp S w w' := ⟨h.os, h.tape, h.output, h.size, h.block⟩
theorem kp_to {S : Nat → Prop} {w w' : World} (h : Kp S w w') : Mf.Kp S w w' := ⟨h.os, h.tape, h.output, h.size, h.block⟩
theorem pows_keep {S : Nat → Prop} {w w' : World} (h : Mf.Pows w) (k : Kp S w w') (hb : ¬ S 1) : Mf.Pows w' := (kp_to k).pows h hb
theorem bs_of_rb {w : World} {p : Option Addr} {n c : Nat} {xs : List Nat} (h : Rb w p n xs) : Mf.Bs w (.slice p n c) n (fun i => xs.getD i 0) := by
  by_cases hn : 0 < n
  · obtain ⟨b, o, rfl, hc⟩ := h.pt hn
    exact ⟨_, b, o, c, rfl, fun _ _ => rfl, hc, fun k => h.byteAt k⟩
  · obtain rfl : n = 0 := by omega
    exact ⟨p, 0, 0, c, rfl, fun k hk => absurd hk (by omega), fun k hk => absurd hk (by omega), fun k => h.byteAt k⟩
theorem len_pos (K n : Nat) (h1 : 1 ≤ K) (hn : n ≤ 400) : 1 ≤ Mf.lenOf K n ∧ Mf.lenOf K n ≤ 100000 := by
  have := Mf.lenOf_bd (K := K) (size := n) h1 hn
  constructor
  · first | omega | (have h2 := this.1; omega)
  · first | omega | (have h2 := this.2; omega)
theorem length_ok (K M size : Nat) (w : World) (h1 : 1 ≤ (K : Int)) (h3 : (M : Int) ≤ 255 - (K : Int)) (hs : (size : Int) ≤ 400) :
    Calls Tryd.prog 95 #[.agg #[.int .i64 K, .int .i64 M], .int .i64 size] w fun e w' => e = .returned (.int .i64 (Mf.lenOf K size : Int)) ∧ Kp (fun _ => False) w w' :=
  (Mf.length_yes K M size w h1 h3 hs).mono fun e w' h => ⟨h.1, kp_of h.2⟩
theorem cut_ok (K M n c : Nat) (p : Option Addr) (xs : List Nat) (w : World) (h : Rb w p n xs) (h1 : 1 ≤ (K : Int)) (h3 : (M : Int) ≤ 255 - (K : Int)) (hl : (n : Int) ≤ 400) (hp : Mf.Pows w) :
    Calls Tryd.prog 101 #[.agg #[.int .i64 K, .int .i64 M], .slice p n c] w fun e w' =>
      ∃ t B, e = .returned (.tuple #[.slice (some ⟨t, 0, none⟩) (K + M) (K + M), .int .i64 0]) ∧ Kp (fun _ => False) w w' ∧ w.heap.size ≤ t ∧ (∀ i, i < K + M → w.heap.size ≤ B i) ∧ Mf.Mat w' t B (K + M) (Mf.lenOf K n) (Mf.enc K (Mf.cutAt K (fun i => xs.getD i 0) n)) :=
  (Mf.cut_yes K M n _ _ w (bs_of_rb h) h1 h3 hl hp).mono fun e w' h => by
    obtain ⟨t, B, he, hk, h5⟩ := h
    exact ⟨t, B, he, kp_of hk, h5⟩

/-- nodes, each once -/
structure Nds (zs : List Int) : Prop where
  rng : ∀ z ∈ zs, 0 ≤ z ∧ z < 16
  one : ∀ i j, (hi : i < zs.length) → (hj : j < zs.length) → j < i → zs[j] ≠ zs[i]

set_option maxRecDepth 100000 in
set_option maxHeartbeats 1600000 in
theorem fit_yes (K M size L : Nat) (p : Option Addr) (c : Nat) (Z : Nat → Prop) (zs : List Int) (w : World) (h1 : 1 ≤ (K : Int)) (h3 : (M : Int) ≤ 255 - (K : Int)) (hs : (size : Int) ≤ 400) (hf : Fl w Z p (zs.map encI)) (hL : Hid (L = zs.length ∧ L = K + M)) (hN : Hid (Nds zs)) (hc : Hid (L ≤ c)) :
    Calls Tryd.prog 57 #[.agg #[.int .i64 K, .int .i64 M], .int .i64 size, .slice p L c] w fun e w' => e = .returned (.bool true) ∧ Kp (fun _ => False) w w' := by
  have H1 : Hid (∀ z, Calls Tryd.prog 95 _ z _) := fun z => length_ok K M size z h1 h3 hs
  have H2 : Hid (∀ n z, Calls Tryd.prog 48 #[.int .i64 n] z _) := fun n z => isNode_ok n z
  have HF : Hid (Fl w Z p (zs.map encI)) := hf
  have HP : Hid ((0 : Int) < (Mf.lenOf K size : Int)) := by have := len_pos K size (by omega) (by omega); show _ < _; omega
  have HKM : Hid (1 ≤ K ∧ K + M ≤ 255) := ⟨by omega, by omega⟩
  obtain ⟨ln, hln⟩ : ∃ ln : Nat, ln = Mf.lenOf K size := ⟨_, rfl⟩
  rw [← hln] at H1 HP
  have hl : Lv (w.alloc (.cells #[.int .i64 K, .int .i64 M] 26)) w.heap.size [.int .i64 K, .int .i64 M] := Lv.new w _ _
  have k0 : Kp (fun _ => False) w (w.alloc (.cells #[.int .i64 K, .int .i64 M] 26)) := (Kp.refl _ _).alloc _
  have c0 := hl.cell (j := 0) rfl
  have c1 := hl.cell (j := 1) rfl
  have hp : (decide ((ln : Int) > 0)) = true := by have := HP.out; simp; omega
  have hsum : wrap64 ((K : Int) + (M : Int)) = (L : Int) := by
    have h5 := hL.out
    unfold wrap64
    omega
  clear hf hl h1 h3 hs hln
  go_enter Tryd.func57, Tryd.ntmps57
  go_wp2
  go_step3
  go_wp2_with (go_at_call 95; refine (H1.out _).mono ?_; rintro e w1 ⟨rfl, k1⟩; have d0 := k1.cellv c0 id; have d1 := k1.cellv c1 id; have HK1 : Hid (Kp (fun _ => False) w w1) := k0.trans k1 (fun _ _ e => e); have hpos : (ln : Int) > 0 := HP.out)
  go_step3
  go_wp2
  clear hsum
  go_loopg [7, 28] L (fun gk f i wr => ∃ (k : Nat), k ≤ L ∧ gk = L - k ∧ f = .bool true ∧ i = .int .i64 k ∧ wr = w1)
  case atStart => exact ⟨0, by omega, rfl, by first | rfl | simp, rfl, rfl⟩
  case round =>
    obtain ⟨k, hk, rfl, rfl, rfl, rfl⟩ := hrel
    obtain ⟨w1, rfl⟩ : ∃ x, x = wr := ⟨_, rfl⟩
    by_cases h : (k : Int) < (L : Int)
    · have hkl : k < zs.length := by have := hL.out; omega
      obtain ⟨b, o, rfl, _, e1⟩ := (HF.out.keep HK1.out (fun _ _ => id)) k (encI zs[k]) (by rw [List.getElem?_map, List.getElem?_eq_getElem hkl]; rfl)
      obtain ⟨z, hz⟩ : ∃ z, z = zs[k] := ⟨_, rfl⟩
      have hzn : (decide (0 ≤ z) && decide (z < 16)) = true := by
        have := hN.out.rng zs[k] (List.getElem_mem hkl)
        rw [← hz] at this
        simp [this.1, this.2]
      have H2z : Hid (Calls Tryd.prog 48 #[.int .i64 z] w1 fun e w' => e = .returned (.bool true) ∧ w' = w1) := by
        have := H2.out z w1
        rw [hzn] at this
        exact this
      rw [← hz] at e1
      have HK1k : Hid (wrap64 ((k : Int) + 1) = ((k + 1 : Nat) : Int)) := by have := HKM.out; have := hL.out; show _ = _; unfold wrap64; omega
      have HZ : Hid (∀ j, (hj : j < zs.length) → j < k → zs[j] ≠ z) := fun j hj hjk => by rw [hz]; exact hN.out.one k j hkl hj hjk
      have HC : Hid (k ≤ c) := by have := hc.out; show _ ≤ _; omega
      clear hz hzn
      go_wp2_with (go_at_call 48; refine H2z.out.mono ?_; rintro e w2 ⟨rfl, hw2⟩; obtain rfl := hw2.symm)
      go_loopg [7, 40] k (fun gk f i wr => ∃ (j : Nat), j ≤ k ∧ gk = k - j ∧ f = .bool true ∧ i = .int .i64 j ∧ wr = w1)
      case atStart => exact ⟨0, by omega, rfl, rfl, rfl, rfl⟩
      case round =>
        obtain ⟨j, hj, rfl, rfl, rfl, rfl⟩ := hrel
        by_cases h2 : (j : Int) < (k : Int)
        · have hjl : j < zs.length := by omega
          obtain ⟨b', o', eb, _, e2⟩ := (HF.out.keep HK1.out (fun _ _ => id)) j (encI zs[j]) (by rw [List.getElem?_map, List.getElem?_eq_getElem hjl]; rfl)
          obtain ⟨rfl, rfl⟩ : b' = b ∧ o' = o := by injection eb with eb; injection eb with x y; exact ⟨x.symm, y.symm⟩
          obtain ⟨y, hy⟩ : ∃ y, y = zs[j] := ⟨_, rfl⟩
          have hyz : (y == z) = false := by rw [hy]; simpa using HZ.out j hjl (by omega)
          have HK1j : Hid (wrap64 ((j : Int) + 1) = ((j + 1 : Nat) : Int)) := by have := HKM.out; have := hL.out; show _ = _; unfold wrap64; omega
          rw [← hy] at e2
          clear hy
          go_wp2
          go_roundg (k - (j + 1))
          case rel => exact ⟨j + 1, by omega, rfl, rfl, by first | rfl | rw [HK1j.out], rfl⟩
          case measure => omega
        · go_wp2
          go_roundg (L - (k + 1))
          case rel => exact ⟨k + 1, by omega, rfl, rfl, by first | rfl | rw [HK1k.out], rfl⟩
          case measure => omega
    · go_wp2
      try rw [Exit.noGoto_ret]
      go_ret
      exact ⟨rfl, HK1.out⟩
end Go.Proofs.YtmncocmeafcpfaaDoor

/- slices.Index, slices.Contains of numbers (as in Ho). -/
namespace Go.Proofs.YtmncocmeafcpfaaDoor
set_option linter.unusedVariables false
set_option linter.unusedSimpArgs false
open Go.RowKit Go.Deep

theorem wrapI (k n : Nat) (hk : k ≤ n) (h : n * 8 ≤ 140737488355328) : wrap64 ((k : Int) + 1) = ((k + 1 : Nat) : Int) := by unfold wrap64; omega

set_option maxRecDepth 100000 in
set_option maxHeartbeats 1600000 in
theorem index_ok (Z : Nat → Prop) (p : Option Addr) (c : Nat) (z : Int) (xs : List Int) (w : World) (h : Fl w Z p (xs.map encI)) (hl : Hid (xs.length * 8 ≤ 140737488355328)) :
    Calls Tryd.prog 90 #[.slice p xs.length c, .int .i64 z] w fun e w' => ∃ r : Int, e = .returned (.int .i64 r) ∧ decide (0 ≤ r) = decide (z ∈ xs) ∧ w' = w := by
  obtain ⟨L, hL⟩ : ∃ L, L = xs.length := ⟨_, rfl⟩
  have HL : Hid (L = xs.length) := hL
  rw [← hL]
  have HF : Hid (Fl w Z p (xs.map encI)) := h
  have HK : Hid (L * 8 ≤ 140737488355328) := by rw [hL]; exact hl
  clear h hL hl
  go_enter Tryd.func90, Tryd.ntmps90
  go_wp2
  go_loopg [8] L (fun gk i wr => ∃ k : Nat, k ≤ L ∧ gk = L - k ∧ i = .int .i64 k ∧ wr = w ∧ Hid (z ∉ xs.take k))
  case atStart => exact ⟨0, Nat.zero_le _, rfl, rfl, rfl, by simp [Hid]⟩
  case round =>
    obtain ⟨k, hk, rfl, rfl, hwr, HT⟩ := hrel
    subst hwr
    by_cases hlt : (k : Int) < (L : Int)
    · have hkl : k < xs.length := by have := HL.out; omega
      have hg : (xs.map encI)[k]? = some (encI xs[k]) := by rw [List.getElem?_map, List.getElem?_eq_getElem hkl]; rfl
      obtain ⟨b1, o1, rfl, _, e1⟩ := HF.out k _ hg
      obtain ⟨y, hy⟩ : ∃ y, y = xs[k] := ⟨_, rfl⟩
      rw [← hy] at e1
      have HTk : Hid (xs.take (k + 1) = xs.take k ++ [y] ∧ y ∈ xs) := ⟨by rw [hy, List.take_succ_eq_append_getElem hkl], by rw [hy]; exact List.getElem_mem hkl⟩
      have HW : Hid (wrap64 ((k : Int) + 1) = ((k + 1 : Nat) : Int)) := wrapI k L hk HK.out
      clear hg hy hkl
      by_cases hzy : z = y
      · subst hzy
        go_wp2
        go_ret
        exact ⟨_, rfl, by rw [decide_eq_true HTk.out.2, decide_eq_true (by omega)], rfl⟩
      · go_wp2
        go_roundg (L - (k + 1))
        case rel => exact ⟨k + 1, by omega, rfl, by rw [HW.out], rfl, by show _ ∉ _; rw [HTk.out.1]; simp only [List.mem_append, List.mem_singleton]; exact fun e => e.elim HT.out hzy⟩
        case measure => omega
    · have HA : Hid (z ∉ xs) := by
        have := HT.out
        rw [List.take_of_length_le (by have := HL.out; omega)] at this
        exact this
      go_wp2
      go_ret
      exact ⟨_, rfl, by first | exact ⟨fun h => absurd h (by omega), fun h => absurd h HA.out⟩ | (rw [decide_eq_false HA.out]; rfl), rfl⟩

set_option maxRecDepth 100000 in
set_option maxHeartbeats 800000 in
theorem contains_ok (Z : Nat → Prop) (p : Option Addr) (c : Nat) (z : Int) (xs : List Int) (w : World) (h : Fl w Z p (xs.map encI)) (hl : Hid (xs.length * 8 ≤ 140737488355328)) :
    Calls Tryd.prog 49 #[.slice p xs.length c, .int .i64 z] w fun e w' => e = .returned (.bool (decide (z ∈ xs))) ∧ w' = w := by
  have H : Hid (Calls _ _ _ w _) := index_ok Z p c z xs w h hl
  obtain ⟨L, hL⟩ : ∃ L, L = xs.length := ⟨_, rfl⟩
  obtain ⟨an, han⟩ : ∃ an, an = decide (z ∈ xs) := ⟨_, rfl⟩
  rw [← hL, ← han] at H
  rw [← hL, ← han]
  clear h hl hL han
  go_enter Tryd.func49, Tryd.ntmps49
  go_wp2_with (go_at_call 90; refine H.out.mono ?_; rintro e u4 ⟨r, rfl, hr, hw⟩; obtain rfl := hw; subst hr)
  go_ret
  exact ⟨rfl, rfl⟩

end Go.Proofs.YtmncocmeafcpfaaDoor

/- Movers: New of one whose blob has one shard; Phase, made, Skip, Stored, Move. -/
namespace Go.Proofs.YtmncocmeafcpfaaDoor
set_option linter.unusedVariables false
set_option linter.unusedSimpArgs false
open Go.RowKit Go.Deep

/-- what a mover has: its phase, its move (blob, index, node), the old holder, the fetch, the shard, the fence -/
abbrev movA (p bl ix nd old : Int) (fp sv : Value) (fe : Int) : List Value := [.int .i64 p, .int .i64 bl, .int .i64 ix, .int .i64 nd, .int .i64 old, fp, sv, .int .i64 fe]
/-- the blocks of a new mover, its fetch and its list -/
structure Mn (w : World) (base m f q oq cq g : Nat) : Prop where
  lm : Lv w m (movA 1 9 0 0 3 (.pointer (some ⟨f, 0, none⟩)) (.slice none 0 0) 0)
  lf : Lv w f (fetA b95 (.slice (some ⟨q, oq, none⟩) 1 cq) (.slice (some ⟨g, 0, none⟩) 1 1) 0)
  lg : Lv w g [.slice none 0 0]
  lq : w.cell? ⟨q, oq, none⟩ = some (.int .i64 3)
  fresh : base ≤ m ∧ base ≤ f ∧ base ≤ g ∧ base ≤ q
  apart : m ≠ f ∧ m ≠ g ∧ m ≠ q ∧ f ≠ g ∧ f ≠ q ∧ q ≠ g

set_option maxRecDepth 100000 in
set_option maxHeartbeats 1600000 in
theorem new10 (b o c : Nat) (w : World) (h3 : w.cell? ⟨b, o, none⟩ = some (.int .i64 3)) (hc : 1 ≤ c) : Calls Tryd.prog 14 #[.int .i64 0, .agg (blobA b95 (.slice (some ⟨b, o, none⟩) 1 c)), .int .i64 0] w fun e w' => ∃ m f q oq cq g, e = .returned (.tuple #[.pointer (some ⟨m, 0, none⟩), .int .i64 0]) ∧ Kp (fun _ => False) w w' ∧ Mn w' w.heap.size m f q oq cq g := by
  have H1 : Hid (∀ z, Kp (fun _ => False) w z → Calls Tryd.prog 47 #[.agg (blobA b95 (.slice (some ⟨b, o, none⟩) 1 c))] z _) := fun z k => newFetch10 b o c z (k.cellv h3 id) hc
  have H2 : Hid (∀ z, Calls Tryd.prog 48 #[.int .i64 0] z _) := fun z => isNode_ok 0 z
  have H4 : Hid (∀ z, Kp (fun _ => False) w z → Calls Tryd.prog 49 #[.slice (some ⟨b, o, none⟩) 1 c, .int .i64 0] z fun e w' => e = .returned (.bool false) ∧ w' = z) := fun z k => by
    have hf : Fl z (fun _ => True) (some ⟨b, o, none⟩) ([(3 : Int)].map encI) := fun j u hu => by
      match j with
      | 0 => simp at hu; subst hu; exact ⟨b, o, rfl, trivial, k.cellv h3 id⟩
      | j + 1 => simp at hu
    refine (contains_ok _ _ c 0 [3] z hf (by show _ ≤ _; decide)).mono ?_
    rintro e w' ⟨rfl, rfl⟩
    exact ⟨by simp, rfl⟩
  have hl : Lv (w.alloc (.cells (blobA b95 (.slice (some ⟨b, o, none⟩) 1 c)) 33)) w.heap.size (blobA b95 (.slice (some ⟨b, o, none⟩) 1 c)).toList := Lv.new w _ _
  have k0 : Kp (fun _ => False) w (w.alloc (.cells (blobA b95 (.slice (some ⟨b, o, none⟩) 1 c)) 33)) := (Kp.refl _ _).alloc _
  have c0 := hl.cell (j := 0) rfl
  have c1 := hl.cell (j := 1) rfl
  have c2 := hl.cell (j := 2) rfl
  have c3 := hl.cell (j := 3) rfl
  have c4 := hl.cell (j := 4) rfl
  have c5 := hl.cell (j := 5) rfl
  clear hl
  go_enter Tryd.func14, Tryd.ntmps14
  go_wp2_with (go_at_call 47; refine (H1.out _ k0).mono ?_; rintro e w1 ⟨f, q, oq, cq, g, rfl, k1, hf, hq, hg, hfg, hfq, hqg, lf, lg, cq3⟩)
  have HLf : Hid (Lv w1 f (fetA b95 (.slice (some ⟨q, oq, none⟩) 1 cq) (.slice (some ⟨g, 0, none⟩) 1 1) 0) ∧ Lv w1 g [.slice none 0 0] ∧ w1.cell? ⟨q, oq, none⟩ = some (.int .i64 3)) := ⟨lf, lg, cq3⟩
  have k01 := k0.trans k1 (fun _ _ e => e)
  have HKW : Hid (Kp (fun _ => False) w w1) := k01
  have HB : Hid (f < w1.heap.size ∧ g < w1.heap.size ∧ q < w1.heap.size ∧ w.heap.size ≤ f ∧ w.heap.size ≤ q ∧ w.heap.size ≤ g ∧ f ≠ g ∧ f ≠ q ∧ q ≠ g) := by
    have s0 := k0.size
    exact ⟨lf.lt (by simp), lg.lt (by simp), World.block_lt_of_cell? _ _ cq3, by omega, by omega, by omega, hfg, hfq, hqg⟩
  have d0 := k1.cellv c0 id
  have d5 := k1.cellv c5 id
  have d3 := k01.cellv h3 id
  clear lf lg cq3 c0 c1 c2 c3 c4 c5
  go_wp2_with (first
    | (go_at_call 48; refine (H2.out _).mono ?_; rintro e w2 ⟨rfl, rfl⟩)
    | (go_at_call 49; refine (H4.out _ HKW.out).mono ?_; rintro e w2 ⟨rfl, rfl⟩))
  go_region
  go_wp2
  go_ret2
  have hb := HB.out
  have hl := HLf.out
  have kz : Kp (fun _ => False) w2 (w2.drew.alloc (.cells (movA 1 9 0 0 3 (.pointer (some ⟨f, 0, none⟩)) (.slice none 0 0) 0).toArray 60)) := (Kp.refl _ _).drew.alloc _
  refine ⟨w2.heap.size, f, q, oq, cq, g, rfl, HKW.out.trans kz (fun _ _ e => e), ⟨?_, hl.1.keep kz id, hl.2.1.keep kz id, kz.cellv hl.2.2 id, by have := HKW.out.size; omega, by omega⟩⟩
  exact Lv.new w2.drew _ _
end Go.Proofs.YtmncocmeafcpfaaDoor

/- Movers: Phase, made, Skip, Stored, Shard; On and Asks of one whose shard is durable. -/
namespace Go.Proofs.YtmncocmeafcpfaaDoor
set_option linter.unusedVariables false
set_option linter.unusedSimpArgs false
open Go.RowKit Go.Deep

set_option maxRecDepth 100000 in
set_option maxHeartbeats 800000 in
theorem mphase_ok (m : Nat) (p : Int) (w : World) (h : w.cell? ⟨m, 0, none⟩ = some (.int .i64 p)) : Calls Tryd.prog 15 #[.pointer (some ⟨m, 0, none⟩)] w fun e w' => e = .returned (.int .i64 p) ∧ w' = w := by
  go_enter Tryd.func15, Tryd.ntmps15
  go_wp2
  go_ret
  exact ⟨rfl, rfl⟩

set_option maxRecDepth 100000 in
set_option maxHeartbeats 800000 in
theorem mmade_ok (m : Nat) (p : Int) (w : World) (h : w.cell? ⟨m, 0, none⟩ = some (.int .i64 p)) (hp : p ≠ 0) : Calls Tryd.prog 52 #[.pointer (some ⟨m, 0, none⟩)] w fun e w' => e = .returned (.bool true) ∧ w' = w := by
  have H : Hid (Calls _ _ _ w _) := mphase_ok m p w h
  clear h
  go_enter Tryd.func52, Tryd.ntmps52
  go_wp2_with (go_at_call 15; refine H.out.mono ?_; rintro e w1 ⟨rfl, rfl⟩)
  go_ret
  exact ⟨by simp [hp], rfl⟩

section
variable {w : World} {m : Nat} {p bl ix nd old : Int} {fp sv : Value} {fe : Int}

set_option maxRecDepth 100000 in
set_option maxHeartbeats 800000 in
theorem mskip_no (h : Lv w m (movA p bl ix nd old fp sv fe)) (h0 : p ≠ 0) (h3 : p ≠ 3) : Calls Tryd.prog 21 #[.pointer (some ⟨m, 0, none⟩)] w fun e w' => e = .returned (.int .i64 1) ∧ w' = w := by
  have c0 := h.cell (j := 0) rfl
  have H : Hid (Calls _ _ _ w _) := mmade_ok m p w c0 h0
  clear h h0
  go_enter Tryd.func21, Tryd.ntmps21
  go_wp2_with (go_at_call 52; refine H.out.mono ?_; rintro e w1 ⟨rfl, rfl⟩)
  go_ret
  exact ⟨rfl, rfl⟩

set_option maxRecDepth 100000 in
set_option maxHeartbeats 800000 in
theorem mskip_ok (h : Lv w m (movA 3 bl ix nd old fp sv fe)) : Calls Tryd.prog 21 #[.pointer (some ⟨m, 0, none⟩)] w fun e w' => e = .returned (.int .i64 0) ∧ Kp (fun b => b = m) w w' ∧ Lv w' m (movA 4 bl ix nd old fp sv fe) := by
  have c0 := h.cell (j := 0) rfl
  have f0 := h.fz (j := 0) (by simp)
  have H : Hid (Calls _ _ _ w _) := mmade_ok m 3 w c0 (by decide)
  have HF : Hid (Lv (w.setCell ⟨m, 0, none⟩ (.int .i64 4)) m (movA 4 bl ix nd old fp sv fe)) := h.set1 0 _ (by simp)
  clear h
  go_enter Tryd.func21, Tryd.ntmps21
  go_wp2_with (go_at_call 52; refine H.out.mono ?_; rintro e w1 ⟨rfl, rfl⟩)
  go_ret
  exact ⟨rfl, (Kp.refl (fun b => b = m) _).setCell (fun _ => rfl) _, HF.out⟩

set_option maxRecDepth 100000 in
set_option maxHeartbeats 800000 in
theorem mstored_ok (ep : Int) (h : Lv w m (movA 2 bl ix nd old fp sv fe)) (he : 0 ≤ ep) (he2 : ep < 1000) : Calls Tryd.prog 22 #[.pointer (some ⟨m, 0, none⟩), .int .i64 ep] w fun e w' => e = .returned (.int .i64 0) ∧ Kp (fun b => b = m) w w' ∧ Lv w' m (movA 3 bl ix nd old fp sv (ep + 1)) := by
  have c0 := h.cell (j := 0) rfl
  have f0 := h.fz (j := 0) (by simp)
  have c7 := h.cell (j := 7) rfl
  have f7 := h.fz (j := 7) (by simp)
  have H : Hid (Calls _ _ _ w _) := mmade_ok m 2 w c0 (by decide)
  have hw : wrap64 (ep + 1) = ep + 1 := by unfold wrap64; omega
  have h1 : Lv (w.setCell ⟨m, 0, none⟩ (.int .i64 3)) m (movA 3 bl ix nd old fp sv fe) := h.set1 0 _ (by simp)
  have c7a := h1.cell (j := 7) rfl
  have f7a := h1.fz (j := 7) (by simp)
  have HF : Hid (Lv ((w.setCell ⟨m, 0, none⟩ (.int .i64 3)).setCell ⟨m, 7, none⟩ (.int .i64 (ep + 1))) m (movA 3 bl ix nd old fp sv (ep + 1))) := h1.set1 7 _ (by simp)
  clear h h1
  go_enter Tryd.func22, Tryd.ntmps22
  go_wp2_with (go_at_call 52; refine H.out.mono ?_; rintro e w1 ⟨rfl, rfl⟩)
  go_ret
  exact ⟨rfl, ((Kp.refl (fun b => b = m) _).setCell (fun _ => rfl) _).setCell (fun _ => rfl) _, HF.out⟩

set_option maxRecDepth 100000 in
set_option maxHeartbeats 800000 in
theorem mshard_ok (pb : Option Addr) (n c : Nat) (xs : List Nat) (h : Lv w m (movA p bl ix nd old fp (.slice pb n c) fe)) (h0 : p ≠ 0) (hb : Rb w pb n xs) (hn : Hid (n ≤ 140737488355328)) : Calls Tryd.prog 19 #[.pointer (some ⟨m, 0, none⟩)] w fun e w' => ∃ v, e = .returned v ∧ Kp (fun _ => False) w w' ∧ Ow w' w.heap.size v xs := by
  have c0 := h.cell (j := 0) rfl
  have c6 := h.cell (j := 6) rfl
  have H : Hid (Calls _ _ _ w _) := mmade_ok m p w c0 h0
  have HC : Hid (Calls _ _ _ w _) := clone_any pb n c xs w hb hn
  clear h h0 hb hn
  go_enter Tryd.func19, Tryd.ntmps19
  go_wp2_with (first | (go_at_call 52; refine H.out.mono ?_; rintro e w1 ⟨rfl, rfl⟩) | (go_at_call 17; refine HC.out.mono ?_; rintro e w2 ⟨v, rfl, k2, o2⟩))
  go_ret
  exact ⟨v, rfl, k2, o2⟩
end
end Go.Proofs.YtmncocmeafcpfaaDoor
