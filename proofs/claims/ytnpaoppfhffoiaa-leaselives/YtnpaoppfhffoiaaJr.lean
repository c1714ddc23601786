/- Shards in order: by their blobs, then by their indexes. -/
import Derived.Test.YtnpaoppfhffoiaaJb
import Derived.Test.YtnpaoppfhffoiaaTk
import Derived.Handy
import Derived.StillTailTactics
import Derived.Test.YtnpaoppfhffoiaaSh
namespace Go.Proofs.Ytnpaoppfhffoiaa
set_option linter.unusedVariables false
open Go.RowKit Go.Deep Go.Maps Go.Shelf Go.Lib Go.Sort

/-- cmp.Compare of numbers -/
def cmpI (a b : Int) : Int := if a < b then -1 else if b < a then 1 else 0
/-- what rising tells -/
def ris (x y : Int × Int) : Int := if cmpI x.1 y.1 = 0 then cmpI x.2 y.2 else cmpI x.1 y.1

set_option maxRecDepth 100000 in
theorem nan_ok (a : Int) (w : World) : Calls Try.prog 65 #[.int .i64 a] w fun e w' => e = .returned (.bool false) ∧ w' = w := by
  go_enter Try.func65, Try.ntmps65
  go_wp2
  go_ret
  exact ⟨by simp, rfl⟩

set_option maxRecDepth 100000 in
set_option maxHeartbeats 800000 in
theorem compare_ok (a b : Int) (w : World) : Calls Try.prog 49 #[.int .i64 a, .int .i64 b] w fun e w' => e = .returned (.int .i64 (cmpI a b)) ∧ w' = w := by
  have HA : Hid (∀ w, Calls _ _ _ w _) := fun w => nan_ok a w
  have HB : Hid (∀ w, Calls _ _ _ w _) := fun w => nan_ok b w
  by_cases h1 : a < b
  · have e : cmpI a b = -1 := by unfold cmpI; rw [if_pos h1]
    rw [e]
    clear e
    go_enter Try.func49, Try.ntmps49
    go_wp2_with fail
    refine (HA.out _).mono ?_
    rintro q w1 ⟨rfl, rfl⟩
    go_wp2_with fail
    refine (HB.out _).mono ?_
    rintro q w2 ⟨rfl, rfl⟩
    go_wp2
    go_ret
    exact ⟨rfl, rfl⟩
  · by_cases h2 : b < a
    · have e : cmpI a b = 1 := by unfold cmpI; rw [if_neg h1, if_pos h2]
      rw [e]
      clear e
      go_enter Try.func49, Try.ntmps49
      go_wp2_with fail
      refine (HA.out _).mono ?_
      rintro q w1 ⟨rfl, rfl⟩
      go_wp2_with fail
      refine (HB.out _).mono ?_
      rintro q w2 ⟨rfl, rfl⟩
      go_wp2
      go_ret
      exact ⟨rfl, rfl⟩
    · have e : cmpI a b = 0 := by unfold cmpI; rw [if_neg h1, if_neg h2]
      rw [e]
      clear e
      go_enter Try.func49, Try.ntmps49
      go_wp2_with fail
      refine (HA.out _).mono ?_
      rintro q w1 ⟨rfl, rfl⟩
      go_wp2_with fail
      refine (HB.out _).mono ?_
      rintro q w2 ⟨rfl, rfl⟩
      go_wp2
      go_ret
      exact ⟨rfl, rfl⟩

set_option maxRecDepth 100000 in
set_option maxHeartbeats 800000 in
/-- cmp.Or of two numbers -/
theorem or_ok (a b : Int) (g : Nat) (w : World) (c0 : w.cell? ⟨g, 0, none⟩ = some (.int .i64 a)) (c1 : w.cell? ⟨g, 1, none⟩ = some (.int .i64 b)) : Calls Try.prog 48 #[.slice (some ⟨g, 0, none⟩) 2 2] w fun e w' => e = .returned (.int .i64 (if a = 0 then b else a)) ∧ w' = w := by
  by_cases h1 : a = 0
  · subst h1
    rw [if_pos rfl]
    by_cases h2 : b = 0
    · subst h2
      go_enter Try.func48, Try.ntmps48
      go_wp2
      go_rounds 3
      go_ret
      exact ⟨rfl, rfl⟩
    · go_enter Try.func48, Try.ntmps48
      go_wp2
      go_rounds 3
      go_ret
      exact ⟨rfl, rfl⟩
  · rw [if_neg h1]
    go_enter Try.func48, Try.ntmps48
    go_wp2
    go_rounds 3
    go_ret
    exact ⟨rfl, rfl⟩

set_option maxRecDepth 100000 in
set_option maxHeartbeats 1600000 in
theorem rising_ok (x y : Int × Int) (W : World) : Calls Try.prog 36 #[pv2 x.1 x.2, pv2 y.1 y.2] W fun e w' => e = .returned (.int .i64 (ris x y)) ∧ ∃ q os', w' = grow (W.drewN q) os' := by
  obtain ⟨a, b⟩ := x
  obtain ⟨c, d⟩ := y
  have HA : Hid (∀ w, Calls _ _ _ w _) := fun w => compare_ok a c w
  have HB : Hid (∀ w, Calls _ _ _ w _) := fun w => compare_ok b d w
  have HR : Hid (ris (a, b) (c, d) = if cmpI a c = 0 then cmpI b d else cmpI a c) := rfl
  obtain ⟨p, hp⟩ : ∃ p, p = cmpI a c := ⟨_, rfl⟩
  obtain ⟨q, hq⟩ : ∃ q, q = cmpI b d := ⟨_, rfl⟩
  obtain ⟨r, hr⟩ : ∃ r, r = ris (a, b) (c, d) := ⟨_, rfl⟩
  rw [← hp] at HA HR
  rw [← hq] at HB HR
  rw [← hr] at HR ⊢
  clear hp hq hr
  dsimp only
  go_enter Try.func36, Try.ntmps36
  go_wp2_with fail
  have hx : Lv (W.alloc (.cells #[.int .i64 a, .int .i64 b] 39)) W.heap.size [.int .i64 a, .int .i64 b] := Lv.new W _ _
  have hy : Lv ((W.alloc (.cells #[.int .i64 a, .int .i64 b] 39)).alloc (.cells #[.int .i64 c, .int .i64 d] 39)) (W.heap.size + 1) [.int .i64 c, .int .i64 d] := by
    have := Lv.new (W.alloc (.cells #[.int .i64 a, .int .i64 b] 39)) #[.int .i64 c, .int .i64 d] 39
    rwa [World.size_alloc] at this
  have k1 : Kp (fun _ => False) (W.alloc (.cells #[.int .i64 a, .int .i64 b] 39)) ((W.alloc (.cells #[.int .i64 a, .int .i64 b] 39)).alloc (.cells #[.int .i64 c, .int .i64 d] 39)) := (Kp.refl _ _).alloc _
  replace hx := hx.keep k1 (fun e => e)
  clear k1
  obtain ⟨w1, hw1⟩ : ∃ x, x = (W.alloc (.cells #[.int .i64 a, .int .i64 b] 39)).alloc (.cells #[.int .i64 c, .int .i64 d] 39) := ⟨_, rfl⟩
  rw [← hw1] at hx hy ⊢
  have kd : Kp (fun _ => False) w1 { w1 with drawn := w1.drawn + 1 } := (Kp.refl _ _).drew
  replace hx := hx.keep kd (fun e => e)
  replace hy := hy.keep kd (fun e => e)
  refine wp_region_still_tail 10 (by kernel_rfl) (by kernel_rfl) ?_
  obtain ⟨w2, hw2⟩ : ∃ x, x = { w1 with drawn := w1.drawn + 1 } := ⟨_, rfl⟩
  obtain ⟨g, hg⟩ : ∃ g, g = W.heap.size := ⟨_, rfl⟩
  rw [← hw2] at hx hy ⊢
  rw [← hg] at hx hy ⊢
  have HW : Hid (w2 = { w1 with drawn := w1.drawn + 1 } ∧ w1 = (W.alloc (.cells #[.int .i64 a, .int .i64 b] 39)).alloc (.cells #[.int .i64 c, .int .i64 d] 39)) := ⟨hw2, hw1⟩
  clear hw1 hw2 kd hg
  have x0 := hx.cell (j := 0) rfl
  have x1 := hx.cell (j := 1) rfl
  have y0 := hy.cell (j := 0) rfl
  have y1 := hy.cell (j := 1) rfl
  clear hx hy
  simp only [List.take_succ_cons, List.take_zero, List.drop_succ_cons, List.drop_zero]
  iterate 4 still_step
  still_call (HA.out w2)
  iterate 4 still_step
  still_call (HB.out w2)
  refine wpStill_nil ?_
  clear x0 x1 y0 y1 HA HB
  go_wp2_with fail
  have hz : Lv (w2.alloc (.cells #[.int .i64 p, .int .i64 q] 3)) w2.heap.size [.int .i64 p, .int .i64 q] := Lv.new w2 _ _
  refine (or_ok p q _ _ (hz.cell (j := 0) rfl) (hz.cell (j := 1) rfl)).mono ?_
  rintro e w' ⟨rfl, rfl⟩
  clear hz
  rw [← HR.out]
  go_wp2
  go_ret
  refine ⟨rfl, 1, #[.cells #[.int .i64 a, .int .i64 b] 39, .cells #[.int .i64 c, .int .i64 d] 39, .cells #[.int .i64 p, .int .i64 q] 3], ?_⟩
  rw [HW.out.1, HW.out.2]
  simp only [alloc_eq_grow, grow_grow]
  rfl

/-- the cells of a shard -/
def encP (x : Int × Int) : List Value := [.int .i64 x.1, .int .i64 x.2]
theorem cmpP (blk off size : Nat) (w : World) : CmpLays Try.prog 36 #[] encP 2 ris blk off size w := fun _ _ _ _ x y => rising_ok x y _
theorem ltR (x y : Int × Int) : ltOf ris x y = decide (x.1 < y.1 ∨ x.1 = y.1 ∧ x.2 < y.2) := by
  unfold ltOf ris cmpI
  by_cases h1 : x.1 < y.1
  · simp [h1]
  · by_cases h2 : y.1 < x.1
    · have : ¬ x.1 = y.1 := by omega
      simp [h1, h2, this]
    · have : x.1 = y.1 := by omega
      by_cases h3 : x.2 < y.2
      · simp [this, h3]
      · by_cases h4 : y.2 < x.2 <;> simp [this, h3, h4]
theorem swoR : SWO (ltOf ris) where
  irrefl x := by rw [ltR]; simp
  trans x y z h1 h2 := by rw [ltR] at *; simp at *; omega
  ntrans x y z h1 h2 := by rw [ltR] at *; simp at *; omega
theorem totR (x y : Int × Int) (h1 : ltOf ris x y = false) (h2 : ltOf ris y x = false) : x = y := by
  rw [ltR] at h1 h2
  simp at h1 h2
  apply Prod.ext <;> omega
/-- shards sorted -/
def srtP (l : List (Int × Int)) : List (Int × Int) := l.mergeSort fun x y => !(ltOf ris) y x

theorem isAggP (w : World) : (isAgg 39).run Try.prog w = .ok true w := by kernel_rfl
theorem sizeP (w : World) : (Go.sizeOf 39).run Try.prog w = .ok 2 w := by kernel_rfl
def pflat (l : List (Int × Int)) : List Value := l.flatMap encP
theorem sortP (blk off cap : Nat) (d : List (Int × Int)) (w : World) (hH : HoldsK encP 2 w blk off d.toArray) (hblk : blk < w.heap.size) (hsz : d.length < 4611686018427387904) :
    Calls Try.prog 35 #[.slice (some ⟨blk, off, none⟩) d.length cap, .func (.func 36) #[] #[]] w fun e w' => e = .returned (.tuple #[]) ∧ ∃ n os, w' = sortWorldK encP 2 w blk off n (srtP d).toArray os := by
  have h := AnyQ.slices_SortFunc_total Try.sortFA 2 isAggP sizeP encP (fun _ => rfl) (fun x v hv => by simp [encP] at hv; rcases hv with rfl | rfl <;> rfl) ris swoR 36 #[] blk off cap d.toArray w (enters_of Try.func36 (by kernel_rfl) rfl) (cmpP blk off _ w) hH hblk (by simpa using hsz) totR
  exact h
theorem sort0 (p : Option Addr) (cap : Nat) (fv : Value) (w : World) : Calls Try.prog 35 #[.slice p 0 cap, fv] w fun e w' => e = .returned (.tuple #[]) ∧ w' = w :=
  AnyF.slices_SortFunc_none Try.sortFA p cap fv w
end Go.Proofs.Ytnpaoppfhffoiaa
