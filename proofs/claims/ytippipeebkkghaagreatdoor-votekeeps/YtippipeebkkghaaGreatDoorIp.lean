/- A shelf's records in order: by kind, then by their numbers. -/
import Derived.Test.YtippipeebkkghaaGreatDoorIn
import Derived.Test.YtippipeebkkghaaGreatDoorSf
import Derived.Handy
import Derived.StillTailTactics
namespace Go.Proofs.YtippipeebkkghaaGreatDoor
set_option linter.unusedVariables false
set_option linter.unusedSimpArgs false
open Go.RowKit Go.Deep Go.Maps Go.Shelf Go.Lib Go.Sort

/-- cmp.Compare of numbers -/
def cmp3 (a b : Int) : Int := if a < b then -1 else if b < a then 1 else 0

/-- what compare tells -/
def ris3 (x y : K3) : Int := if cmp3 x.k y.k = 0 then (if cmp3 x.n y.n = 0 then cmp3 x.i y.i else cmp3 x.n y.n) else cmp3 x.k y.k

set_option maxRecDepth 100000 in
theorem nan3_ok (a : Int) (w : World) : Calls Tryz.prog 176 #[.int .i64 a] w fun e w' => e = .returned (.bool false) ∧ w' = w := by
  go_enter Tryz.func176, Tryz.ntmps176
  go_wp2
  go_ret
  exact ⟨by simp, rfl⟩

set_option maxRecDepth 100000 in
set_option maxHeartbeats 800000 in
theorem compare3_ok (a b : Int) (w : World) : Calls Tryz.prog 152 #[.int .i64 a, .int .i64 b] w fun e w' => e = .returned (.int .i64 (cmp3 a b)) ∧ w' = w := by
  have HA : Hid (∀ w, Calls _ _ _ w _) := fun w => nan3_ok a w
  have HB : Hid (∀ w, Calls _ _ _ w _) := fun w => nan3_ok b w
  by_cases h1 : a < b
  · have e : cmp3 a b = -1 := by unfold cmp3; rw [if_pos h1]
    rw [e]
    clear e
    go_enter Tryz.func152, Tryz.ntmps152
    go_wp2_with fail
    refine (HA.out _).mono ?_
    rintro q w1 ⟨rfl, rfl⟩
    go_wp2_with fail
    refine (HB.out _).mono ?_
    rintro q w2 ⟨rfl, rfl⟩
    go_wp2
    go_ret
    exact ⟨rfl, rfl⟩
  · by_cases h2 : b < a
    · have e : cmp3 a b = 1 := by unfold cmp3; rw [if_neg h1, if_pos h2]
      rw [e]
      clear e
      go_enter Tryz.func152, Tryz.ntmps152
      go_wp2_with fail
      refine (HA.out _).mono ?_
      rintro q w1 ⟨rfl, rfl⟩
      go_wp2_with fail
      refine (HB.out _).mono ?_
      rintro q w2 ⟨rfl, rfl⟩
      go_wp2
      go_ret
      exact ⟨rfl, rfl⟩
    · have e : cmp3 a b = 0 := by unfold cmp3; rw [if_neg h1, if_neg h2]
      rw [e]
      clear e
      go_enter Tryz.func152, Tryz.ntmps152
      go_wp2_with fail
      refine (HA.out _).mono ?_
      rintro q w1 ⟨rfl, rfl⟩
      go_wp2_with fail
      refine (HB.out _).mono ?_
      rintro q w2 ⟨rfl, rfl⟩
      go_wp2
      go_ret
      exact ⟨rfl, rfl⟩

set_option maxRecDepth 100000 in
set_option maxHeartbeats 800000 in
/-- cmp.Or of three numbers -/
theorem or3_ok (a b d : Int) (g : Nat) (w : World) (c0 : w.cell? ⟨g, 0, none⟩ = some (.int .i64 a)) (c1 : w.cell? ⟨g, 1, none⟩ = some (.int .i64 b)) (c2 : w.cell? ⟨g, 2, none⟩ = some (.int .i64 d)) : Calls Tryz.prog 151 #[.slice (some ⟨g, 0, none⟩) 3 3] w fun e w' => e = .returned (.int .i64 (if a = 0 then (if b = 0 then d else b) else a)) ∧ w' = w := by
  by_cases h1 : a = 0
  · subst h1
    rw [if_pos rfl]
    by_cases h2 : b = 0
    · subst h2
      rw [if_pos rfl]
      by_cases h3 : d = 0
      · subst h3
        go_enter Tryz.func151, Tryz.ntmps151
        go_wp2
        go_rounds 4
        go_ret
        exact ⟨rfl, rfl⟩
      · go_enter Tryz.func151, Tryz.ntmps151
        go_wp2
        go_rounds 4
        go_ret
        exact ⟨rfl, rfl⟩
    · rw [if_neg h2]
      go_enter Tryz.func151, Tryz.ntmps151
      go_wp2
      go_rounds 4
      go_ret
      exact ⟨rfl, rfl⟩
  · rw [if_neg h1]
    go_enter Tryz.func151, Tryz.ntmps151
    go_wp2
    go_rounds 4
    go_ret
    exact ⟨rfl, rfl⟩

theorem lt3 (x y : K3) : ltOf ris3 x y = decide (x.k < y.k ∨ x.k = y.k ∧ (x.n < y.n ∨ x.n = y.n ∧ x.i < y.i)) := by
  unfold ltOf ris3 cmp3
  by_cases h1 : x.k < y.k
  · simp [h1]
  · by_cases h2 : y.k < x.k
    · have : ¬ x.k = y.k := by omega
      simp [h1, h2, this]
    · have e1 : x.k = y.k := by omega
      by_cases h3 : x.n < y.n
      · simp [e1, h3]
      · by_cases h4 : y.n < x.n
        · have : ¬ x.n = y.n := by omega
          simp [e1, h3, h4, this]
        · have e2 : x.n = y.n := by omega
          by_cases h5 : x.i < y.i
          · simp [e1, e2, h5]
          · by_cases h6 : y.i < x.i <;> simp [e1, e2, h5, h6]

theorem swo3 : SWO (ltOf ris3) where
  irrefl x := by rw [lt3]; simp
  trans x y z h1 h2 := by rw [lt3] at *; simp at *; omega
  ntrans x y z h1 h2 := by rw [lt3] at *; simp at *; omega

theorem tot3 (x y : K3) (h1 : ltOf ris3 x y = false) (h2 : ltOf ris3 y x = false) : x = y := by
  rw [lt3] at h1 h2
  simp at h1 h2
  cases x
  cases y
  simp at *
  omega

/-- things sorted -/
def srt3 (l : List K3) : List K3 := l.mergeSort fun x y => !(ltOf ris3) y x

theorem srt3_len (l : List K3) : (srt3 l).length = l.length := (List.mergeSort_perm _ _).length_eq

theorem srt3_perm {a b : List K3} (h : a.Perm b) : srt3 a = srt3 b := by
  have tr : ∀ x y z : K3, (!(ltOf ris3) y x) = true → (!(ltOf ris3) z y) = true → (!(ltOf ris3) z x) = true := fun x y z h1 h2 => by
    rw [lt3] at *
    simp only [Bool.not_eq_true', decide_eq_false_iff_not] at *
    omega
  have tt : ∀ x y : K3, ((!(ltOf ris3) y x) || (!(ltOf ris3) x y)) = true := fun x y => by
    rw [lt3, lt3]
    simp only [Bool.or_eq_true, Bool.not_eq_true', decide_eq_false_iff_not]
    omega
  refine List.Perm.eq_of_pairwise (le := fun x y => (!(ltOf ris3) y x) = true) (fun x y _ _ h1 h2 => ?_) (List.pairwise_mergeSort tr tt a) (List.pairwise_mergeSort tr tt b) (((List.mergeSort_perm a _).trans h).trans (List.mergeSort_perm b _).symm)
  simp only [Bool.not_eq_true'] at h1 h2
  exact tot3 x y h2 h1

theorem flat3_len (G : K3 → G3) : ∀ l : List K3, (flat3 G l).length = l.length * 5
  | [] => rfl
  | x :: l => by show (cE G x ++ flat3 G l).length = (l.length + 1) * 5; rw [List.length_append, flat3_len G l]; simp [cE]; omega

theorem flat3_get (G : K3 → G3) : ∀ (l : List K3) (j r : Nat), j < l.length → r < 5 → (flat3 G l)[j * 5 + r]? = (cE G (l.getD j default))[r]?
  | [], j, r, h, _ => absurd h (Nat.not_lt_zero _)
  | x :: l, 0, r, _, hr => by
    show (cE G x ++ flat3 G l)[0 * 5 + r]? = _
    rw [List.getElem?_append_left (by simp [cE]; omega), Nat.zero_mul, Nat.zero_add]
    rfl
  | x :: l, j + 1, r, h, hr => by
    have := flat3_get G l j r (by simpa using h) hr
    show (cE G x ++ flat3 G l)[(j + 1) * 5 + r]? = _
    rw [List.getElem?_append_right (by simp [cE]; omega)]
    have e : (j + 1) * 5 + r - (cE G x).length = j * 5 + r := by simp [cE]; omega
    rw [e, this]
    rfl

/-- records as a slice that can be read, in blocks of which Z holds -/
def R3 (w : World) (Z : Nat → Prop) (G : K3 → G3) (v : Value) (l : List K3) : Prop := ∃ p cap, v = .slice p l.length cap ∧ ∀ j, j < l.length → ∃ g o, p = some ⟨g, o, none⟩ ∧ Z g ∧ ∀ r u, (cE G (l.getD j default))[r]? = some u → w.cell? ⟨g, o + j * 5 + r, none⟩ = some u

theorem R3.keep {S Z : Nat → Prop} {w w' : World} {G : K3 → G3} {v : Value} {l : List K3} (h : R3 w Z G v l) (k : Kp S w w') (hS : ∀ b, Z b → b < w.heap.size → ¬ S b) : R3 w' Z G v l := by
  obtain ⟨p, cap, e, hc⟩ := h
  refine ⟨p, cap, e, fun j hj => ?_⟩
  obtain ⟨g, o, e2, hz, c1⟩ := hc j hj
  exact ⟨g, o, e2, hz, fun r u hu => k.cellv (c1 r u hu) (hS g hz (World.block_lt_of_cell? w _ (c1 r u hu)))⟩

theorem R3.mono {Z Z' : Nat → Prop} {w : World} {G : K3 → G3} {v : Value} {l : List K3} (h : R3 w Z G v l) (hz : ∀ b, Z b → Z' b) : R3 w Z' G v l := by
  obtain ⟨p, cap, e, hc⟩ := h
  refine ⟨p, cap, e, fun j hj => ?_⟩
  obtain ⟨g, o, e2, hz', c1⟩ := hc j hj
  exact ⟨g, o, e2, hz g hz', c1⟩

theorem R3.nil (w : World) (Z : Nat → Prop) (G : K3 → G3) (p : Option Addr) (cap : Nat) : R3 w Z G (.slice p 0 cap) [] := ⟨p, cap, rfl, fun j hj => absurd hj (Nat.not_lt_zero _)⟩

theorem isAggR (w : World) : (isAgg 122).run Tryz.prog w = .ok true w := by kernel_rfl

theorem sizeR (w : World) : (Go.sizeOf 122).run Tryz.prog w = .ok 5 w := by kernel_rfl

theorem flat3_getE (G : K3 → G3) (d : Array K3) (t : Nat) (h : t < d.size * 5) : (flatK (cE G) 5 d)[t]! = (cE G d[t / 5]!)[t % 5]! := get_flatK (cE G) 5 d t h

set_option maxRecDepth 100000 in
set_option maxHeartbeats 1600000 in
theorem tcomp_ok (x y : K3) (W : World) : Calls Tryz.prog 105 #[pv3 x, pv3 y] W fun e w' => e = .returned (.int .i64 (ris3 x y)) ∧ ∃ q os', w' = grow (W.drewN q) os' := by
  obtain ⟨a, b, f⟩ := x
  obtain ⟨c, d, h⟩ := y
  have HA : Hid (∀ w, Calls _ _ _ w _) := fun w => compare3_ok a c w
  have HB : Hid (∀ w, Calls _ _ _ w _) := fun w => compare3_ok b d w
  have HC : Hid (∀ w, Calls _ _ _ w _) := fun w => compare3_ok f h w
  have HR : Hid (ris3 ⟨a, b, f⟩ ⟨c, d, h⟩ = if cmp3 a c = 0 then (if cmp3 b d = 0 then cmp3 f h else cmp3 b d) else cmp3 a c) := rfl
  obtain ⟨p, hp⟩ : ∃ p, p = cmp3 a c := ⟨_, rfl⟩
  obtain ⟨q, hq⟩ : ∃ q, q = cmp3 b d := ⟨_, rfl⟩
  obtain ⟨s, hs⟩ : ∃ q, q = cmp3 f h := ⟨_, rfl⟩
  obtain ⟨r, hr⟩ : ∃ r, r = ris3 ⟨a, b, f⟩ ⟨c, d, h⟩ := ⟨_, rfl⟩
  rw [← hp] at HA HR
  rw [← hq] at HB HR
  rw [← hs] at HC HR
  rw [← hr] at HR ⊢
  clear hp hq hs hr
  go_enter Tryz.func105, Tryz.ntmps105
  go_wp2_with fail
  have hx : Lv (W.alloc (.cells #[.int .i64 a, .int .i64 b, .int .i64 f] 120)) W.heap.size [.int .i64 a, .int .i64 b, .int .i64 f] := Lv.new W _ _
  have hy : Lv ((W.alloc (.cells #[.int .i64 a, .int .i64 b, .int .i64 f] 120)).alloc (.cells #[.int .i64 c, .int .i64 d, .int .i64 h] 120)) (W.heap.size + 1) [.int .i64 c, .int .i64 d, .int .i64 h] := by
    have := Lv.new (W.alloc (.cells #[.int .i64 a, .int .i64 b, .int .i64 f] 120)) #[.int .i64 c, .int .i64 d, .int .i64 h] 120
    rwa [World.size_alloc] at this
  have k1 : Kp (fun _ => False) (W.alloc (.cells #[.int .i64 a, .int .i64 b, .int .i64 f] 120)) ((W.alloc (.cells #[.int .i64 a, .int .i64 b, .int .i64 f] 120)).alloc (.cells #[.int .i64 c, .int .i64 d, .int .i64 h] 120)) := (Kp.refl _ _).alloc _
  replace hx := hx.keep k1 (fun e => e)
  clear k1
  obtain ⟨w1, hw1⟩ : ∃ x, x = (W.alloc (.cells #[.int .i64 a, .int .i64 b, .int .i64 f] 120)).alloc (.cells #[.int .i64 c, .int .i64 d, .int .i64 h] 120) := ⟨_, rfl⟩
  rw [← hw1] at hx hy ⊢
  have kd : Kp (fun _ => False) w1 { w1 with drawn := w1.drawn + 1 } := (Kp.refl _ _).drew
  replace hx := hx.keep kd (fun e => e)
  replace hy := hy.keep kd (fun e => e)
  refine wp_region_still_tail 15 (by kernel_rfl) (by kernel_rfl) ?_
  obtain ⟨w2, hw2⟩ : ∃ x, x = { w1 with drawn := w1.drawn + 1 } := ⟨_, rfl⟩
  obtain ⟨g, hg⟩ : ∃ g, g = W.heap.size := ⟨_, rfl⟩
  rw [← hw2] at hx hy ⊢
  rw [← hg] at hx hy ⊢
  have HW : Hid (w2 = { w1 with drawn := w1.drawn + 1 } ∧ w1 = (W.alloc (.cells #[.int .i64 a, .int .i64 b, .int .i64 f] 120)).alloc (.cells #[.int .i64 c, .int .i64 d, .int .i64 h] 120)) := ⟨hw2, hw1⟩
  clear hw1 hw2 kd hg
  have x0 := hx.cell (j := 0) rfl
  have x1 := hx.cell (j := 1) rfl
  have x2 := hx.cell (j := 2) rfl
  have y0 := hy.cell (j := 0) rfl
  have y1 := hy.cell (j := 1) rfl
  have y2 := hy.cell (j := 2) rfl
  clear hx hy
  simp only [List.take_succ_cons, List.take_zero, List.drop_succ_cons, List.drop_zero]
  iterate 4 still_step
  still_call (HA.out w2)
  iterate 4 still_step
  still_call (HB.out w2)
  iterate 4 still_step
  still_call (HC.out w2)
  refine wpStill_nil ?_
  clear x0 x1 x2 y0 y1 y2 HA HB HC
  go_wp2_with fail
  have hz : Lv (w2.alloc (.cells #[.int .i64 p, .int .i64 q, .int .i64 s] 3)) w2.heap.size [.int .i64 p, .int .i64 q, .int .i64 s] := Lv.new w2 _ _
  refine (or3_ok p q s _ _ (hz.cell (j := 0) rfl) (hz.cell (j := 1) rfl) (hz.cell (j := 2) rfl)).mono ?_
  rintro e w' ⟨rfl, rfl⟩
  clear hz
  rw [← HR.out]
  go_wp2
  go_ret
  refine ⟨rfl, 1, #[.cells #[.int .i64 a, .int .i64 b, .int .i64 f] 120, .cells #[.int .i64 c, .int .i64 d, .int .i64 h] 120, .cells #[.int .i64 p, .int .i64 q, .int .i64 s] 3], ?_⟩
  rw [HW.out.1, HW.out.2]
  simp only [alloc_eq_grow, grow_grow]
  rfl

theorem drewN_drewN (W : World) (a b : Nat) : (W.drewN a).drewN b = W.drewN (a + b) := by unfold World.drewN; simp [Nat.add_assoc]

theorem drewN_grow (W : World) (a : Nat) (os : Array Obj) : (grow W os).drewN a = grow (W.drewN a) os := rfl

set_option maxRecDepth 100000 in
set_option maxHeartbeats 1600000 in
theorem cl3_ok (G : K3 → G3) (x y : K3) (W : World) : Calls Tryz.prog 104 #[vE G x, vE G y] W fun e w' => e = .returned (.int .i64 (ris3 x y)) ∧ ∃ q os', w' = grow (W.drewN q) os' := by
  obtain ⟨⟨e1, p1, n1, c1⟩, hx⟩ : ∃ z, z = G x := ⟨_, rfl⟩
  obtain ⟨⟨e2, p2, n2, c2⟩, hy⟩ : ∃ z, z = G y := ⟨_, rfl⟩
  simp only [vE]
  rw [← hx, ← hy]
  clear hx hy
  have HT : Hid (∀ w, Calls _ _ _ w _) := fun w => tcomp_ok x y w
  obtain ⟨r, hr⟩ : ∃ r, r = ris3 x y := ⟨_, rfl⟩
  rw [← hr] at HT ⊢
  clear hr
  obtain ⟨a, b, f⟩ := x
  obtain ⟨c, d, h⟩ := y
  dsimp only
  go_enter Tryz.func104, Tryz.ntmps104
  go_wp2_with fail
  refine (HT.out _).mono ?_
  rintro e w' ⟨rfl, q, os', hw⟩
  clear HT
  have HW : Hid (∃ q os', w' = grow (W.drewN q) os') := by
    refine ⟨q, #[.cells #[.int .i64 a, .int .i64 b, .int .i64 f, .int .i64 e1, .slice p1 n1 c1] 122, .cells #[.int .i64 c, .int .i64 d, .int .i64 h, .int .i64 e2, .slice p2 n2 c2] 122] ++ os', ?_⟩
    rw [hw]
    simp only [alloc_eq_grow, grow_grow, drewN_grow]
    rfl
  clear hw
  go_wp2
  go_ret
  exact ⟨rfl, HW.out⟩

theorem cmp3P (G : K3 → G3) (blk off size : Nat) (w : World) : CmpLays Tryz.prog 104 #[] (cE G) 5 ris3 blk off size w := fun _ _ _ _ x y => cl3_ok G x y _

theorem sort3 (G : K3 → G3) (blk off cap : Nat) (d : List K3) (w : World) (hH : HoldsK (cE G) 5 w blk off d.toArray) (hblk : blk < w.heap.size) (hsz : d.length < 4611686018427387904) :
    Calls Tryz.prog 103 #[.slice (some ⟨blk, off, none⟩) d.length cap, .func (.func 104) #[] #[]] w fun e w' => e = .returned (.tuple #[]) ∧ ∃ n os, w' = sortWorldK (cE G) 5 w blk off n (srt3 d).toArray os := by
  have h := AnyQ.slices_SortFunc_total Tryz.sortFA 5 isAggR sizeR (cE G) (fun _ => rfl) (fun x v hv => by simp [cE] at hv; rcases hv with rfl | rfl | rfl | rfl | rfl <;> rfl) ris3 swo3 104 #[] blk off cap d.toArray w (enters_of Tryz.func104 (by kernel_rfl) rfl) (cmp3P G blk off _ w) hH hblk (by simpa using hsz) tot3
  exact h

theorem sort30 (p : Option Addr) (cap : Nat) (fv : Value) (w : World) : Calls Tryz.prog 103 #[.slice p 0 cap, fv] w fun e w' => e = .returned (.tuple #[]) ∧ w' = w :=
  AnyF.slices_SortFunc_none Tryz.sortFA p cap fv w

theorem kp_sortW3 {α : Type} [Inhabited α] (enc : α → List Value) (k : Nat) (w : World) (blk off n : Nat) (d : Array α) (os : Array Obj) : Kp (fun b => b = blk) w (sortWorldK enc k w blk off n d os) := by
  unfold sortWorldK grow putRowK putRow mapBlock Sort.ahead
  refine ⟨rfl, rfl, rfl, by simp, fun b hb hn => ?_⟩
  dsimp only
  rw [Array.getElem?_append_left (by simpa using hb)]
  rw [Array.getElem?_modify, if_neg (fun e => hn e.symm)]

theorem own_frz3 {w : World} {base g n cap sz : Nat} {e : TypeId} {xs : List Value} (h : w.ownsRow base e sz (.slice (some ⟨g, 0, none⟩) n cap) n xs) (j : Nat) : w.frozen? ⟨g, j, none⟩ = false := by
  obtain ⟨h1, h2⟩ := h
  rcases h2 with ⟨h0, _⟩ | ⟨g2, cap2, cur, hv, hg, hh, hn, hcap, hsz, htake⟩
  · cases h0
  · cases hv
    exact frozen_of_row _ _ _ cur _ hh

theorem cE_get (G : K3 → G3) (x : K3) (r : Nat) (hr : r < 5) : (cE G x)[r]? = some ((cE G x)[r]!) := by
  rw [List.getElem!_eq_getElem?_getD, List.getElem?_eq_getElem (by simpa [cE] using hr)]
  rfl

/-- slices.SortFunc of a row of one's own -/
theorem sort3own {w : World} {base : Nat} {G : K3 → G3} {v : Value} {d : List K3} (h : w.ownsRow base 122 5 v d.length (flat3 G d)) (hd : d.length ≤ 100000) :
    Calls Tryz.prog 103 #[v, .func (.func 104) #[] #[]] w fun e w' => e = .returned (.tuple #[]) ∧ Kp (fun b => v.ownBlock = some b) w w' ∧ R3 w' (fun b => v.ownBlock = some b) G v (srt3 d) := by
  rcases Joins.ownsRow_forms h with ⟨e1, e2⟩ | ⟨g, cap, e⟩
  · have : d = [] := List.eq_nil_of_length_eq_zero e2
    subst this
    rw [e1]
    refine (sort30 none 0 _ w).mono ?_
    rintro e w' ⟨rfl, rfl⟩
    have e0 : srt3 [] = [] := List.eq_nil_of_length_eq_zero (srt3_len [])
    exact ⟨rfl, Kp.refl _ _, by rw [e0]; exact R3.nil _ _ _ _ _⟩
  · have hb := (ownBlock_lt h (g := g) (by rw [e]; rfl)).2
    rw [e] at h ⊢
    have hH : HoldsK (cE G) 5 w g 0 d.toArray := fun t ht => by
      have ht2 : t < d.length * 5 := by simpa using ht
      refine ⟨?_, own_frz3 h _⟩
      rw [flat3_getE _ _ _ (by simpa using ht)]
      have hj : t / 5 < d.length := by omega
      have e3 : (d.toArray[t / 5]!) = d.getD (t / 5) default := by
        rw [List.getElem!_toArray, List.getElem!_eq_getElem?_getD, List.getD_eq_getElem?_getD]
      have e4 := (flat3_get G d (t / 5) (t % 5) hj (by omega)).trans (cE_get G _ _ (by omega))
      have := h.cells (g := g) rfl (t / 5 * 5 + t % 5) _ e4
      rw [Addr.add_mid, Nat.zero_add, show t / 5 * 5 + t % 5 = t by omega] at this
      rw [e3, Nat.zero_add]
      exact this
    refine (sort3 G g 0 cap d w hH hb (by omega)).mono ?_
    rintro q w' ⟨rfl, n, os, rfl⟩
    have hfin : HoldsK (cE G) 5 (sortWorldK (cE G) 5 w g 0 n (srt3 d).toArray os) g 0 (srt3 d).toArray :=
      holdsK_grow _ _ _ os g 0 _ (by simp [putRowK, putRow, mapBlock, Sort.ahead]; exact hb) (holdsK_putRowK _ _ _ g 0 d.toArray _ (holdsK_ahead _ _ _ n g 0 _ hH) (by simp [srt3_len]))
    refine ⟨rfl, (kp_sortW3 (cE G) 5 w g 0 n _ os).mono (fun b _ e => by rw [e]; rfl), some ⟨g, 0, none⟩, cap, by rw [srt3_len], fun j hj => ⟨g, 0, rfl, rfl, fun r u hu => ?_⟩⟩
    have hr : r < 5 := by
      have := (List.getElem?_eq_some_iff.1 hu).1
      simpa [cE] using this
    have := (hfin (j * 5 + r) (by simp; omega)).1
    rw [flat3_getE _ _ _ (by simp; omega)] at this
    have e3 : ((srt3 d).toArray[(j * 5 + r) / 5]!) = (srt3 d).getD j default := by
      rw [List.getElem!_toArray, List.getElem!_eq_getElem?_getD, List.getD_eq_getElem?_getD, show (j * 5 + r) / 5 = j by omega]
    rw [e3, show (j * 5 + r) % 5 = r by omega] at this
    have e5 := cE_get G ((srt3 d).getD j default) r hr
    rw [hu] at e5
    rw [Option.some.inj e5, Nat.add_assoc]
    exact this

theorem len_sub {α : Type} [DecidableEq α] : ∀ (l m : List α), l.Nodup → (∀ x ∈ l, x ∈ m) → l.length ≤ m.length
  | [], _, _, _ => Nat.zero_le _
  | a :: t, m, hn, hs => by
    have ha := hs a List.mem_cons_self
    have h1 := len_sub t (m.erase a) (List.nodup_cons.1 hn).2 (fun x hx => (List.mem_erase_of_ne (fun e => (List.nodup_cons.1 hn).1 (by rw [← e]; exact hx))).2 (hs x (List.mem_cons_of_mem _ hx)))
    have h2 := List.length_erase_of_mem ha
    have h3 := List.length_pos_of_mem ha
    simp only [List.length_cons]
    omega
end Go.Proofs.YtippipeebkkghaaGreatDoor
