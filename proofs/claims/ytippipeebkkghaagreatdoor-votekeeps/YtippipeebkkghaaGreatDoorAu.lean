/- slices.Chunk of a record: the iterator. -/
import Derived.Test.YtippipeebkkghaaGreatDoorAt
import Derived.RangeFuncBox
import Derived.RangeFuncLeaves
import Derived.Shelf.SlIterI.Sorted
import Derived.OwnWalkIn
import Derived.TacticsInMore
import Derived.LoopNIn
import Derived.LoopIn
namespace Go.Proofs.YtippipeebkkghaaGreatDoor
set_option linter.unusedVariables false
set_option linter.unusedSimpArgs false
open Go.RowKit Go.Deep Go.Maps Go.Shelf

theorem slice3W (g o n c l r : Nat) (hl : l < r) (hr : r ≤ c) (w : World) :
    (Instr.slice 75 (.slice (some ⟨g, o, none⟩) n c) (some (.int .i64 (l : Int))) (some (.int .i64 (r : Int))) (some (.int .i64 (r : Int)))).run Tryz.prog w = .ok (.slice (some ⟨g, o + l, none⟩) (r - l) (r - l)) w := by
  obtain ⟨i, hi, hz⟩ := Option.map_eq_some_iff.1 info5
  simp only [Prod.mk.injEq] at hz
  obtain ⟨hz, hs, hb⟩ := hz
  have h2 : (0 : Int) ≤ r ∧ (r : Int) ≤ (c : Int) := by omega
  have h3 : ¬ r = l := by omega
  have h4 : l ≤ r := by omega
  simp [Instr.slice, Instr.sliceBounds, Instr.sliceBound, asIntOf, run_underlying Tryz.underlying75, sizeOf, typeInfo, hi, hs, hr, h3, h4, Addr.add]
/-- how many bytes the j-th piece of n has -/
def chL (n j : Nat) : Nat := min 40 (n - 40 * j)
def chV (b o n j : Nat) : Value := .slice (some ⟨b, o + 40 * j, none⟩) (chL n j) (chL n j)
theorem wr_add {i e r : Nat} (h : r = i + e) (hb : r ≤ 100000) : wrap64 ((i : Int) + (e : Int)) = (r : Int) ∧ IntKind.i64.wrap ((i : Int) + (e : Int)) = (r : Int) := by
  refine ⟨by unfold wrap64; omega, by rw [IntKind.wrap_i64]; omega⟩
theorem wr_40 {i k : Nat} (h : i = 40 * k) (hb : i ≤ 100000) : wrap64 ((i : Int) + 40) = ((40 * (k + 1) : Nat) : Int) := by unfold wrap64; omega
theorem min_chunk {e m : Nat} (h : e = min 40 m) : min (40 : Int) (m : Int) = (e : Int) := by omega
def vnumW : Value → Int
  | .int _ z => z
  | _ => 0

set_option maxRecDepth 100000 in
set_option maxHeartbeats 2000000 in
/-- the iterator over a record's parts, for each loop whose body keeps what lies outside S -/
theorem chunk1 (F : Fence) (n : Nat) (h7 : F.fn 222) (hro : F.round = none) (hn : 1 ≤ n) (l Bs Bn len cap b o : Nat) (K : Nat) (S : Nat → Prop) (hK : Hid (K = (len + 39) / 40 ∧ len ≤ 2000 ∧ len ≤ cap)) (J Jx : List Nat → World → Prop) (Bj : Nat) (hJ : AbidesFrom Bj J)
    (hY : ∀ pre x W, J pre W → pre.length < K → YieldAt F (n - 1) Tryz.prog l #[chV b o len x] W fun e W' =>
      (e = .returned (.bool true) ∧ J (pre ++ [x]) W' ∧ Kp S W W') ∨ (e = .returned (.bool false) ∧ Jx (pre ++ [x]) W'))
    (W : World) (hBs : W.cell? ⟨Bs, 0, none⟩ = some (.slice (some ⟨b, o, none⟩) len cap)) (hBn : W.cell? ⟨Bn, 0, none⟩ = some (.int .i64 40)) (hlt : ¬ S Bs ∧ ¬ S Bn) (h0 : J [] W) :
    CallsIn F n Tryz.prog 222 #[.func (.yield l) #[] #[], .pointer (some ⟨Bs, 0, none⟩), .pointer (some ⟨Bn, 0, none⟩)] W fun e W' => (∃ v, e = .returned v) ∧ ((∃ ys, ys = List.range K ∧ J ys W') ∨ (∃ pre : List Nat, True ∧ Jx pre W')) := by
  refine callsIn_of_wp Tryz.func222 rfl h7 ?_ hro
  simp only [Tryz.ntmps222, List.size_toArray, List.length_cons, List.length_nil, Nat.reduceAdd, Nat.reduceSub, Array.replicate_succ, Array.replicate_zero, List.push_toArray, List.append_toArray, List.nil_append, List.cons_append]
  gi_wp2
  gi_loopw [4] (fun i wr => ∃ k : Nat, k ≤ K ∧ i = .int .i64 ((40 * k : Nat) : Int) ∧ J (List.range k) wr ∧ Kp S W wr)
    (fun i _ => 2040 - (vnumW i).toNat)
  case atStart => exact ⟨0, Nat.zero_le _, rfl, by simpa using h0, Kp.refl _ _⟩
  case round =>
    obtain ⟨k, hk, rfl, hJs, hnx⟩ := hrel
    have cs : wr.cell? ⟨Bs, 0, none⟩ = some (.slice (some ⟨b, o, none⟩) len cap) := hnx.cellv hBs hlt.1
    have cn : wr.cell? ⟨Bn, 0, none⟩ = some (.int .i64 40) := hnx.cellv hBn hlt.2
    obtain ⟨i, hi⟩ : ∃ i, i = 40 * k := ⟨_, rfl⟩
    rw [← hi]
    by_cases hlt3 : k < K
    · have hlt2 : (i : Int) < (len : Int) := by have := hK.out; omega
      have HKk := hK.out
      obtain ⟨m, hm⟩ : ∃ m, m = len - i := ⟨_, rfl⟩
      obtain ⟨c9, hc9⟩ : ∃ c9, c9 = cap - i := ⟨_, rfl⟩
      have hsl : ∀ w, (Instr.slice 75 (.slice (some ⟨b, o, none⟩) len cap) (some (.int .i64 (i : Int))) none none).run Tryz.prog w = .ok (.slice (some ⟨b, o + i, none⟩) m c9) w := fun w => by
        rw [hm, hc9]
        exact sliceL b o len cap i (by omega) (by omega) w
      obtain ⟨e, he⟩ : ∃ e, e = chL len k := ⟨_, rfl⟩
      have hee : e = min 40 m := by rw [he, hm, hi]; rfl
      obtain ⟨r, hr⟩ : ∃ r, r = i + e := ⟨_, rfl⟩
      have hs3 : ∀ w, (Instr.slice 75 (.slice (some ⟨b, o, none⟩) len cap) (some (.int .i64 (i : Int))) (some (.int .i64 (r : Int))) (some (.int .i64 (r : Int)))).run Tryz.prog w = .ok (chV b o len k) w := fun w => by
        have := slice3W b o len cap i r (by omega) (by omega) w
        rw [this]
        unfold chV
        rw [← he, hi, show r - 40 * k = e by omega]
      have hJd : J (List.range k) wr.drew := hJ _ _ _ none hJs ⟨rfl, rfl, rfl, Nat.le_refl _, fun _ _ _ => rfl⟩ (fun r e => by cases e)
      have hnd : Kp S W wr.drew := hnx.drew
      have hYk := hY _ k wr.drew hJd (by rw [List.length_range]; exact hlt3)
      have HNx : Hid (wrap64 ((i : Int) + 40) = ((40 * (k + 1) : Nat) : Int) ∧ i < 2000 ∧ i = 40 * k) := ⟨wr_40 hi (by omega), by omega, hi⟩
      have HT : Hid (List.range (k + 1) = List.range k ++ [k]) := List.range_succ
      obtain ⟨cv, hcv⟩ : ∃ cv, cv = chV b o len k := ⟨_, rfl⟩
      rw [← hcv] at hs3 hYk
      have hmin := min_chunk hee
      obtain ⟨hwr, hwr2⟩ := wr_add hr (by omega)
      clear hm hc9 he hee hr hi HKk hcv hY
      obtain ⟨fn, tmps, assign, body, hy, hR⟩ := hYk
      gi_wp2
      gi_region
      all_goals
        gi_wp2
        refine hR.mono ?_
        rintro e9 W3 (⟨rfl, hJ3, hk3⟩ | ⟨rfl, hJx3⟩)
        · have cn3 : W3.cell? ⟨Bn, 0, none⟩ = some (.int .i64 40) := (hnd.trans hk3 (fun _ _ e => e)).cellv hBn hlt.2
          gi_wp2
          go_roundw
          case rel => exact ⟨k + 1, by omega, by first | rw [HNx.out.1] | simp, by rw [HT.out]; exact hJ3, hnd.trans hk3 (fun _ _ e => e)⟩
          case measure =>
            clear hwr hwr2 hmin
            rw [HNx.out.1]
            show 2040 - (((40 * (k + 1) : Nat) : Int)).toNat < 2040 - ((i : Nat) : Int).toNat
            rw [Int.toNat_natCast, Int.toNat_natCast]
            have := HNx.out.2
            omega
        · gi_wp2
          refine bodyPost_ret (results_none rfl _ _ _) rfl ?_
          exact ⟨⟨_, rfl⟩, .inr ⟨_, trivial, hJx3⟩⟩
    · have hlt2 : ¬ ((i : Int) < (len : Int)) := by have := hK.out; omega
      obtain rfl : k = K := by omega
      clear hY
      gi_wp2
      go_end0
      exact ⟨⟨_, rfl⟩, .inl hJs⟩
theorem chunk_stops (F : Fence) (n : Nat) (h7 : F.fn 222) (hro : F.round = none) (hn : 1 ≤ n) (Bs Bn len cap b o K : Nat) (S : Nat → Prop) (hK : Hid (K = (len + 39) / 40 ∧ len ≤ 2000 ∧ len ≤ cap)) (w : World) (hBs : Bs < w.heap.size) (hBn : Bn < w.heap.size) (hlt : ¬ S Bs ∧ ¬ S Bn)
    (hc : w.cell? ⟨Bs, 0, none⟩ = some (.slice (some ⟨b, o, none⟩) len cap)) (hc2 : w.cell? ⟨Bn, 0, none⟩ = some (.int .i64 40)) :
    SeqStopsK F n Tryz.prog 222 #[.pointer (some ⟨Bs, 0, none⟩), .pointer (some ⟨Bn, 0, none⟩)] (fun x : Nat => #[chV b o len x]) (Kp S) (fun ys => ys = List.range K) (fun _ => True) K w := fun l J Jx W hW hJ _ hY h0 =>
  chunk1 F n h7 hro hn l Bs Bn len cap b o K S hK J Jx _ hJ hY W ((hW.cell (p := ⟨Bs, 0, none⟩) hBs).trans hc) ((hW.cell (p := ⟨Bn, 0, none⟩) hBn).trans hc2) hlt h0
end Go.Proofs.YtippipeebkkghaaGreatDoor
