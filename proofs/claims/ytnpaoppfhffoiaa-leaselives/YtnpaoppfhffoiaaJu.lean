/- The shards of a map: maps.Keys, collected. -/
import Derived.Test.YtnpaoppfhffoiaaJt
import Derived.Lib.SlKeysI
import Derived.Shelf.AbstractIn
import Derived.RangeFuncSeq
import Derived.RangeFuncBox
import Derived.RangeFuncLeaves
import Derived.RangeFuncNested
import Derived.Sort.MapsRangeIn
import Derived.Shelf.SlIterI.Sorted
import Derived.Sort.KeysCollected
import Derived.WalkKit
import Derived.OwnWalkIn
import Derived.TacticsInMore
import Derived.RegionIn
import Derived.LoopNIn
import Derived.LoopIn
namespace Go.Proofs.Ytnpaoppfhffoiaa
set_option linter.unusedVariables false
open Go.RowKit Go.Deep Go.Maps Go.Shelf Go.Sort

set_option maxRecDepth 100000 in
/-- what is a key, is a pair -/
theorem key_pair {v : Value} {kl : Lit} (h : keyOf Try.prog 39 v = some kl) : ∃ x : Int × Int, v = pv2 x.1 x.2 ∧ wf2 x.1 x.2 ∧ kl = pk2 x.1 x.2 := by
  obtain ⟨m, hm⟩ := p2t
  unfold keyOf at h
  simp only [Try.underlying39, p2k, Bool.true_and] at h
  by_cases hf : v.formed Try.prog 39 = true
  · rw [if_pos hf] at h
    obtain ⟨ls, hl, he⟩ := Option.map_eq_some_iff.1 h
    cases v <;> simp [Value.formed, Try.underlying39, p2c.1] at hf
    rename_i cs
    obtain ⟨l⟩ := cs
    match l, hf with
    | [a, b], _ =>
      rw [hm] at hl
      unfold Program.keyLits at hl
      simp only [Try.underlying39, p2c.1, p2c.2] at hl
      simp [Value.cells, List.range_succ] at hl
      have one : ∀ (x : Value) (y : List Lit), Try.prog.keyLits (m + 1) 3 [x] = some y → ∃ c : Int, x = .int .i64 c ∧ (Lit.int .i64 c).wf = true ∧ y = [.int .i64 c] := fun x y hy => by
        unfold Program.keyLits at hy
        simp only [Try.underlying3] at hy
        cases x <;> simp at hy
        obtain ⟨⟨h1, h2⟩, h3⟩ := hy
        subst h1
        exact ⟨_, rfl, h2, h3.symm⟩
      cases ha : Try.prog.keyLits (m + 1) 3 [a] with
      | none => simp [ha] at hl
      | some ya =>
        cases hb : Try.prog.keyLits (m + 1) 3 [b] with
        | none => simp [ha, hb] at hl
        | some yb =>
          obtain ⟨c, rfl, hc, rfl⟩ := one a ya ha
          obtain ⟨d, rfl, hd, rfl⟩ := one b yb hb
          simp [ha, hb] at hl
          exact ⟨(c, d), rfl, ⟨hc, hd⟩, by rw [← he, ← hl]; rfl⟩
  · rw [if_neg hf] at h; cases h

/-- the pairs that have come so far -/
def CP (D0 : DataW Value) (left : Lit → Bool) (ss : List (Int × Int)) : Prop := ss.Nodup ∧ (∀ x ∈ ss, wf2 x.1 x.2) ∧ ∀ x : Int × Int, wf2 x.1 x.2 → (x ∈ ss ↔ Maps.has D0 (pk2 x.1 x.2) = true ∧ left (pk2 x.1 x.2) = false)
theorem CP.start (D0 : DataW Value) : CP D0 (Maps.has D0) [] := ⟨List.nodup_nil, fun _ h => (by cases h), fun x _ => by cases Maps.has D0 (pk2 x.1 x.2) <;> simp⟩
theorem CP.step {D0 : DataW Value} {left : Lit → Bool} {ss : List (Int × Int)} (h : CP D0 left ss) {x : Int × Int} (hw : wf2 x.1 x.2) {y : DataW Value} (hlk : left (pk2 x.1 x.2) = true) (hat : ∀ zd, D0.atKey (pk2 x.1 x.2) zd = y) : CP D0 (fun z => left z && !z.sameKey (pk2 x.1 x.2)) (ss ++ [x]) := by
  have hhas : Maps.has D0 (pk2 x.1 x.2) = true := has_true_of_atKey hat
  have hnew : x ∉ ss := fun hx => by have := ((h.2.2 x hw).1 hx).2; rw [hlk] at this; cases this
  refine ⟨List.nodup_append.2 ⟨h.1, by simp, fun a ha b hb => by simp at hb; subst hb; exact fun e => hnew (e ▸ ha)⟩, fun a ha => ?_, fun y hy => ?_⟩
  · rcases List.mem_append.1 ha with ha | ha
    · exact h.2.1 a ha
    · rw [List.mem_singleton.1 ha]; exact hw
  · by_cases e : y = x
    · subst e
      have hs : (pk2 y.1 y.2).sameKey (pk2 y.1 y.2) = true := WideAt.sameKey_self (pk2_lit hw)
      simp [hhas, hs]
    · have hs : (pk2 y.1 y.2).sameKey (pk2 x.1 x.2) = false := sameKey_ne (fun e2 => e (by have := pk2_inj hy hw e2; exact Prod.ext this.1 this.2))
      simp [h.2.2 y hy, e, hs]

set_option maxRecDepth 100000 in
set_option maxHeartbeats 2000000 in
theorem keysP1 (F : Fence) (n : Nat) (h10 : F.fn 51) (hro : F.round = none) (hn : 1 ≤ n) (l Bm b nn : Nat) (D0 : DataW Value) (J Jx : List (Int × Int) → World → Prop)
    (hY : ∀ pre x W, J pre W → pre.length < Maps.size D0 → YieldAt F (n - 1) Try.prog l #[pv2 x.1 x.2] W fun e W' => (e = .returned (.bool true) ∧ J (pre ++ [x]) W' ∧ KeepsWalks W W') ∨ (e = .returned (.bool false) ∧ Jx (pre ++ [x]) W'))
    (W : World) (hJ : AbidesFrom W.heap.size J) (hm : W.cell? ⟨Bm, 0, none⟩ = some (.map (some b))) (hown : W.ownsMap Try.prog 39 idR b nn D0) (h0 : J [] W) :
    CallsIn F n Try.prog 51 #[.func (.yield l) #[] #[], .pointer (some ⟨Bm, 0, none⟩)] W fun e W' => (∃ v, e = .returned v) ∧ ((∃ ss, CP D0 (fun _ => false) ss ∧ J ss W') ∨ (∃ pre : List (Int × Int), True ∧ Jx pre W')) := by
  refine callsIn_of_wp Try.func51 rfl h10 ?_ hro
  simp only [Try.ntmps51, List.size_toArray, List.length_cons, List.length_nil, Nat.reduceAdd, Nat.reduceSub, Array.replicate_succ, Array.replicate_zero, List.push_toArray, List.append_toArray, List.nil_append, List.cons_append]
  gi_wp2_with (first
    | (gi_at_range; refine wpListIn_range_own _ rfl _ 58 rfl 39 3 p2Law Try.underlying58 _ b nn _ rfl hown ?_; intro w0 hrg0 hg0 hs0)
    | gi_in)
  go_frame
  gi_loopw [6] (fun _ wr => ∃ (left : Lit → Bool) (cnt : Nat) (ss : List (Int × Int)), wr.ranges Try.prog 39 idR b W.heap.size nn D0 left cnt ∧ ss.length + cnt ≤ Maps.size D0 ∧ CP D0 left ss ∧ J ss wr)
    (fun _ wr => wr.rangeLeft b W.heap.size)
  case atStart =>
    exact ⟨_, _, [], hrg0, by simp, CP.start D0, hJ [] W w0 none h0 hg0 (fun r e => by cases e)⟩
  case round =>
    obtain ⟨left, cnt, ss, hrg, hcs, hC, hJs⟩ := hrel
    gi_wp2_with (first
      | (gi_at_next; refine wpListIn_next_ranges _ rfl _ rfl 39 p2Law idR (fun x : Int × Int => pv2 x.1 x.2) id (fun key kl hk => by obtain ⟨x, hx, _⟩ := key_pair hk; exact ⟨x, hx⟩) (fun v _ _ => ⟨v, rfl⟩) b W.heap.size nn _ _ _ rfl hrg ?_ ?_)
      | gi_in)
    · intro hc0 hl0
      gi_wp2
      go_end0
      obtain ⟨q1, q2, q3⟩ := hC
      exact ⟨⟨_, rfl⟩, .inl ⟨ss, ⟨q1, q2, fun x hx => by rw [q3 x hx, hl0]⟩, hJs⟩⟩
    · intro xa xb c kl yd yp w2 cnt2 hkey hlk hv hat hrg2 hlt hg2 hs2 hen
      obtain ⟨x', ex, hwx, rfl⟩ := key_pair hkey
      obtain ⟨ya, yb⟩ := x'
      obtain ⟨rfl, rfl⟩ : xa = ya ∧ xb = yb := by simpa using ex
      have hJ2 : J ss w2 := hJ ss wr w2 (some W.heap.size) hJs hg2 (fun r e => by cases e; exact ⟨Nat.le_refl _, hrg.iter_walk⟩)
      have hJ3 : J ss (w2.alloc (.cells #[.int .i64 xa, .int .i64 xb] 39)) := hJ ss w2 _ none hJ2 ⟨rfl, rfl, rfl, by simp, fun k hk _ => blk_alloc_lt _ _ _ hk⟩ (fun r e => by cases e)
      obtain ⟨fn, tmps, assign, body, hy, hR⟩ := hY ss (xa, xb) _ hJ3 (by omega)
      dsimp only at hy hR hen
      have hC2 := hC.step (x := (xa, xb)) hwx hlk hat
      clear hs2 hJ2
      gi_wp2
      refine hR.mono ?_
      rintro e W3 (⟨rfl, hJ3', hk3⟩ | ⟨rfl, hJx3⟩)
      · gi_wp2
        have hrg3 := (hrg2.of_walks (KeepsWalks.alloc w2 (.cells #[.int .i64 xa, .int .i64 xb] 39))).of_walks hk3
        go_roundw
        case rel => exact ⟨_, cnt2, ss ++ [(xa, xb)], hrg3, by simp; omega, hC2, hJ3'⟩
        case measure => rw [hrg3.left_eq, hrg.left_eq]; exact hlt
      · gi_wp2
        refine bodyPost_ret (results_none rfl _ _ _) rfl ?_
        exact ⟨⟨_, rfl⟩, .inr ⟨_, trivial, hJx3⟩⟩

theorem keysP_stops (F : Fence) (n : Nat) (h10 : F.fn 51) (hro : F.round = none) (hn : 1 ≤ n) (Bm b nn : Nat) (D0 : DataW Value) (w : World) (hBm : Bm < w.heap.size)
    (hm : w.cell? ⟨Bm, 0, none⟩ = some (.map (some b))) (hown : w.ownsMap Try.prog 39 idR b nn D0) :
    SeqStopsK F n Try.prog 51 #[.pointer (some ⟨Bm, 0, none⟩)] (fun x : Int × Int => #[pv2 x.1 x.2]) KeepsWalks (fun ss => CP D0 (fun _ => false) ss) (fun _ => True) (Maps.size D0) w := fun l J Jx W hW hJ _ hY h0 => by
  have hown' : W.ownsMap Try.prog 39 idR b nn D0 := by
    have hbl := hown.lt
    obtain ⟨es, clock, hb, Ft, hs, hD⟩ := hown
    exact ⟨es, clock, (hW.block b hbl).trans hb, Ft, hs, hD⟩
  exact keysP1 F n h10 hro hn l Bm b nn D0 J Jx hY W hJ ((hW.cell (p := ⟨Bm, 0, none⟩) hBm).trans hm) hown' h0

set_option maxRecDepth 100000 in
set_option maxHeartbeats 2000000 in
/-- slices.AppendSeq(nil, maps.Keys(m)) -/
theorem apkeys (Bm b nn : Nat) (D0 : DataW Value) (hsz : Maps.size D0 ≤ 100000) (w : World) (hBm : Bm < w.heap.size) (hm : w.cell? ⟨Bm, 0, none⟩ = some (.map (some b))) (hown : w.ownsMap Try.prog 39 idR b nn D0) :
    CallsIn Fence.wide 4 Try.prog 66 #[.slice none 0 0, .func (.func 51) #[] #[.pointer (some ⟨Bm, 0, none⟩)]] w fun e w' => ∃ v ss, e = .returned v ∧ CP D0 (fun _ => false) ss ∧ w'.ownsRow w.heap.size 39 2 v ss.length (pflat ss) ∧ Below w.heap.size w w' := by
  have hte : 38 ≠ 39 := by decide
  have hb0 : Below w.heap.size w (w.alloc (.cells #[.slice none 0 0] 38)) := (Below.refl _ w).alloc (Nat.le_refl _) _
  have hown1 : (w.alloc (.cells #[.slice none 0 0] 38)).ownsMap Try.prog 39 idR b nn D0 := by
    have hbl := hown.lt
    obtain ⟨es, clock, hb, Ft, hs, hD⟩ := hown
    exact ⟨es, clock, (hb0.block b hbl).trans hb, Ft, hs, hD⟩
  have hseq := keysP_stops Fence.wide 3 trivial rfl (by omega) Bm b nn D0 (w.alloc (.cells #[.slice none 0 0] 38)) (by simp; omega) ((hb0.cell (p := ⟨Bm, 0, none⟩) hBm).trans hm) hown1
  obtain ⟨ti, tz, hi1, hi2, hi3, hi4, hi5⟩ := infoP
  refine callsIn_of_wp_marks Try.func66 rfl trivial ?_ rfl
  simp only [Try.ntmps66, List.size_toArray, List.length_cons, List.length_nil, Nat.reduceAdd, Nat.reduceSub, Array.replicate_succ, Array.replicate_zero, List.push_toArray, List.append_toArray, List.nil_append, List.cons_append]
  gi_wp2
  refine wpIn_rangeFunc_ownH rfl (by omega) (gf := 51) (lb := #[.pointer (some ⟨Bm, 0, none⟩)]) rfl trivial (enters_of Try.func51 (by kernel_rfl) rfl)
    hseq walksK_t walksK_b (Below.refl _ _) (fun _ => rfl)
    (fun pre W => (∃ v, Boxed W w.heap.size 38 v ∧ W.ownsRow w.heap.size 39 2 v pre.length (pflat pre) ∧ True) ∧ Below w.heap.size w W)
    (fun _ _ _ => False)
    (OwnFrom.and (Own.from (holdsRow_own w.heap.size w.heap.size 38 39 2 List.length pflat (fun _ _ => True)) _) (ownFrom_below (Nat.le_refl _) (by simp)))
    (fun _ _ _ _ _ hs _ _ => hs)
    ⟨⟨_, Boxed.new w _ _, World.ownsRow_nil _ _ _ _, trivial⟩, hb0⟩
    (fun x a' W => ∃ Bx, w.heap.size ≤ Bx ∧ W.cell? ⟨Bx, 0, none⟩ = some (.int .i64 x.1) ∧ W.cell? ⟨Bx, 1, none⟩ = some (.int .i64 x.2) ∧ a' = { tmps := #[.slice none 0 0, .func (.func 51) #[] #[.pointer (some ⟨Bm, 0, none⟩)], .pointer (some ⟨w.heap.size, 0, none⟩), undef, .slice none 0 0, .pointer (some ⟨Bx, 0, none⟩), .func (.func 51) #[] #[.pointer (some ⟨Bm, 0, none⟩)], pv2 x.1 x.2, undef, undef, undef, undef, undef], defers := [] })
    (fun x a' s A B row hs hg hr => by
      obtain ⟨Bx, h1, h2, h3, h4⟩ := hs
      exact ⟨Bx, h1, cell_kept h2 hg (fun r e => (hr r e).2), cell_kept h3 hg (fun r e => (hr r e).2), h4⟩) ?assign ?body ?done ?stop
  case assign =>
    rintro l pre ⟨xa, xb⟩ W K hi hK
    have hcl : Lv (W.alloc (.cells #[.int .i64 xa, .int .i64 xb] 39)) W.heap.size [.int .i64 xa, .int .i64 xb] := Lv.new W _ _
    have hBW := hi.2.size
    have HKK : Hid (K { tmps := #[.slice none 0 0, .func (.func 51) #[] #[.pointer (some ⟨Bm, 0, none⟩)], .pointer (some ⟨w.heap.size, 0, none⟩), undef, .slice none 0 0, .pointer (some ⟨W.heap.size, 0, none⟩), .func (.func 51) #[] #[.pointer (some ⟨Bm, 0, none⟩)], pv2 xa xb, undef, undef, undef, undef, undef], defers := [] } (W.alloc (.cells #[.int .i64 xa, .int .i64 xb] 39))) := by
      obtain ⟨⟨v, hv, hrow, _⟩, hB⟩ := hi
      exact hK _ _ ((KeepsOthers.alloc _ _).from _) (KeepsWalks.alloc _ _) ⟨⟨v, hv.alloc _, hrow.alloc _, trivial⟩, hB.trans ((Below.refl _ W).alloc hB.size _)⟩ ⟨W.heap.size, hBW, hcl.cell (j := 0) rfl, hcl.cell (j := 1) rfl, rfl⟩
    clear hK hi hcl hBW
    gi_wp2_with gi_round_op_a
    exact HKK.out
  case body =>
    rintro l pre ⟨xa, xb⟩ a' W hl hrl ⟨⟨v, hv, hrow, _⟩, hB⟩ ⟨Bx, hBx, cx0, cx1, rfl⟩ hlen
    have hc2 := hv.cell
    have hf2 := hv.frozen
    have hBs2 := hB.size
    have hcl : Lv (W.alloc (.cells #[.int .i64 xa, .int .i64 xb] 39)) W.heap.size [.int .i64 xa, .int .i64 xb] := Lv.new W _ _
    have HCL : Hid (∀ j u, [Value.int .i64 xa, Value.int .i64 xb][j]? = some u → (W.alloc (.cells #[.int .i64 xa, .int .i64 xb] 39)).cell? ((⟨W.heap.size, 0, none⟩ : Addr).add j) = some u) := fun j u hj => by rw [Addr.add_mid, Nat.zero_add]; exact hcl.cell hj
    clear hcl
    gi_wp2_with (first
      | (gi_at_builtin; refine wpListIn_append_own _ rfl _ _ 38 rfl w.heap.size 39 ti tz 2 16 Try.underlying38 hi1 hi2 hi3 hi4 hi5 (by decide) _ _ _ rfl (hrow.alloc _) ⟨W.heap.size, 0, none⟩ 1 1 [.int .i64 xa, .int .i64 xb] rfl rfl HCL.out (by simp [Value.oneCell']) (by unfold maxLen; omega) (by omega) (by simp; omega) ?_; intro v' w3 hown' hg3 hnil3
         obtain ⟨g', cap', rfl⟩ := ownsRow_succ hown'
         have hap := Boxed.appended hv hte hrow hBs2 (Nat.le_refl _) hown' hg3
         have hc3 := hap.1.cell
         have hf3 := hap.1.frozen
         go_frame)
      | gi_round_op_a)
    have hpf : pflat (pre ++ [(xa, xb)]) = pflat pre ++ [.int .i64 xa, .int .i64 xb] := by rw [pflat_append]; rfl
    exact ⟨hap.2.2.2.1.from _, hap.2.2.2.1.walks, ⟨⟨_, hap.2.1, (by rw [hpf, List.length_append]; exact hap.2.2.1)⟩, hB.trans hap.2.2.2.2⟩⟩
  case done =>
    rintro D ys W hD hS ⟨⟨v, hv, hrow, _⟩, hB⟩ hK
    have hc3 := hv.cell
    gi_wp2
    refine ⟨by simp, .inl ⟨_, _, rfl, run_takeDeferred hK, ?_⟩⟩
    exact ⟨_, results_tmp rfl _ _ _, v, ys, rfl, hS, ownsRow_putObj hrow _ hK rfl, hB.trans (belowK_b (w := w) (Nat.le_refl _) W D _ _ (by simp at hD; omega) hK rfl rfl)⟩
  case stop =>
    rintro D c pre W _ _ h _
    exact h.elim
end Go.Proofs.Ytnpaoppfhffoiaa
