/- Movers: New of one whose blob has one shard; Phase, made, Skip, Stored, Move. -/
import Derived.Test.YtmncocmeafcpfaaDoorYb
import Derived.Test.YtmncocmeafcpfaaDoorYi
import Derived.RegionTactic
import Derived.BigRegion
namespace Go.Proofs.YtmncocmeafcpfaaDoor
set_option linter.unusedVariables false
set_option linter.unusedSimpArgs false
open Go.RowKit Go.Deep

/-- what a mover has: its phase, its move (blob, index, node), the old holder, the fetch, the shard, the fence -/
abbrev movA (p bl ix nd old : Int) (fp sv : Value) (fe : Int) : List Value := [.int .i64 p, .int .i64 bl, .int .i64 ix, .int .i64 nd, .int .i64 old, fp, sv, .int .i64 fe]
/-- the blocks of a new mover, its fetch and its list -/
structure Mn (w : World) (base m f q oq cq g : Nat) : Prop where
  lm : Lv w m (movA 1 9 0 0 3 (.pointer (some ⟨f, 0, none⟩)) (.slice none 0 0) 0)
  lf : Lv w f (fetA b95 (.slice (some ⟨q, oq, none⟩) 1 cq) (.slice (some ⟨g, 0, none⟩) 1 1) 0)
  lg : Lv w g [.slice none 0 0]
  lq : w.cell? ⟨q, oq, none⟩ = some (.int .i64 3)
  fresh : base ≤ m ∧ base ≤ f ∧ base ≤ g ∧ base ≤ q
  apart : m ≠ f ∧ m ≠ g ∧ m ≠ q ∧ f ≠ g ∧ f ≠ q ∧ q ≠ g

set_option maxRecDepth 100000 in
set_option maxHeartbeats 1600000 in
theorem new10 (b o c : Nat) (w : World) (h3 : w.cell? ⟨b, o, none⟩ = some (.int .i64 3)) (hc : 1 ≤ c) : Calls Tryd.prog 14 #[.int .i64 0, .agg (blobA b95 (.slice (some ⟨b, o, none⟩) 1 c)), .int .i64 0] w fun e w' => ∃ m f q oq cq g, e = .returned (.tuple #[.pointer (some ⟨m, 0, none⟩), .int .i64 0]) ∧ Kp (fun _ => False) w w' ∧ Mn w' w.heap.size m f q oq cq g := by
  have H1 : Hid (∀ z, Kp (fun _ => False) w z → Calls Tryd.prog 47 #[.agg (blobA b95 (.slice (some ⟨b, o, none⟩) 1 c))] z _) := fun z k => newFetch10 b o c z (k.cellv h3 id) hc
  have H2 : Hid (∀ z, Calls Tryd.prog 48 #[.int .i64 0] z _) := fun z => isNode_ok 0 z
  have H4 : Hid (∀ z, Kp (fun _ => False) w z → Calls Tryd.prog 49 #[.slice (some ⟨b, o, none⟩) 1 c, .int .i64 0] z fun e w' => e = .returned (.bool false) ∧ w' = z) := fun z k => by
    have hf : Fl z (fun _ => True) (some ⟨b, o, none⟩) ([(3 : Int)].map encI) := fun j u hu => by
      match j with
      | 0 => simp at hu; subst hu; exact ⟨b, o, rfl, trivial, k.cellv h3 id⟩
      | j + 1 => simp at hu
    refine (contains_ok _ _ c 0 [3] z hf (by show _ ≤ _; decide)).mono ?_
    rintro e w' ⟨rfl, rfl⟩
    exact ⟨by simp, rfl⟩
  have hl : Lv (w.alloc (.cells (blobA b95 (.slice (some ⟨b, o, none⟩) 1 c)) 33)) w.heap.size (blobA b95 (.slice (some ⟨b, o, none⟩) 1 c)).toList := Lv.new w _ _
  have k0 : Kp (fun _ => False) w (w.alloc (.cells (blobA b95 (.slice (some ⟨b, o, none⟩) 1 c)) 33)) := (Kp.refl _ _).alloc _
  have c0 := hl.cell (j := 0) rfl
  have c1 := hl.cell (j := 1) rfl
  have c2 := hl.cell (j := 2) rfl
  have c3 := hl.cell (j := 3) rfl
  have c4 := hl.cell (j := 4) rfl
  have c5 := hl.cell (j := 5) rfl
  clear hl
  go_enter Tryd.func14, Tryd.ntmps14
  go_wp2_with (go_at_call 47; refine (H1.out _ k0).mono ?_; rintro e w1 ⟨f, q, oq, cq, g, rfl, k1, hf, hq, hg, hfg, hfq, hqg, lf, lg, cq3⟩)
  have HLf : Hid (Lv w1 f (fetA b95 (.slice (some ⟨q, oq, none⟩) 1 cq) (.slice (some ⟨g, 0, none⟩) 1 1) 0) ∧ Lv w1 g [.slice none 0 0] ∧ w1.cell? ⟨q, oq, none⟩ = some (.int .i64 3)) := ⟨lf, lg, cq3⟩
  have k01 := k0.trans k1 (fun _ _ e => e)
  have HKW : Hid (Kp (fun _ => False) w w1) := k01
  have HB : Hid (f < w1.heap.size ∧ g < w1.heap.size ∧ q < w1.heap.size ∧ w.heap.size ≤ f ∧ w.heap.size ≤ q ∧ w.heap.size ≤ g ∧ f ≠ g ∧ f ≠ q ∧ q ≠ g) := by
    have s0 := k0.size
    exact ⟨lf.lt (by simp), lg.lt (by simp), World.block_lt_of_cell? _ _ cq3, by omega, by omega, by omega, hfg, hfq, hqg⟩
  have d0 := k1.cellv c0 id
  have d5 := k1.cellv c5 id
  have d3 := k01.cellv h3 id
  clear lf lg cq3 c0 c1 c2 c3 c4 c5
  go_wp2_with (first
    | (go_at_call 48; refine (H2.out _).mono ?_; rintro e w2 ⟨rfl, rfl⟩)
    | (go_at_call 49; refine (H4.out _ HKW.out).mono ?_; rintro e w2 ⟨rfl, rfl⟩))
  go_region
  go_wp2
  go_ret2
  have hb := HB.out
  have hl := HLf.out
  have kz : Kp (fun _ => False) w2 (w2.drew.alloc (.cells (movA 1 9 0 0 3 (.pointer (some ⟨f, 0, none⟩)) (.slice none 0 0) 0).toArray 60)) := (Kp.refl _ _).drew.alloc _
  refine ⟨w2.heap.size, f, q, oq, cq, g, rfl, HKW.out.trans kz (fun _ _ e => e), ⟨?_, hl.1.keep kz id, hl.2.1.keep kz id, kz.cellv hl.2.2 id, by have := HKW.out.size; omega, by omega⟩⟩
  exact Lv.new w2.drew _ _
end Go.Proofs.YtmncocmeafcpfaaDoor
