/- Texts of this proof, joined: Ip, Ix. -/
import Derived.Test.YtblaabjjcanifaaGreatDoorMgBR
import Derived.Handy
import Derived.StillTailTactics
import Derived.Test.YtblaabjjcanifaaGreatDoorMgBQ
/- A shelf's records in order: by kind, then by their numbers. -/
namespace Go.Proofs.YtblaabjjcanifaaGreatDoor
set_option linter.unusedVariables false
set_option linter.unusedSimpArgs false
open Go.RowKit Go.Deep Go.Maps Go.Shelf Go.Lib Go.Sort

/-- cmp.Compare of numbers -/
def cmp3 (a b : Int) : Int := if a < b then -1 else if b < a then 1 else 0
/-- what compare tells -/
def ris3 (x y : K3) : Int := if cmp3 x.k y.k = 0 then (if cmp3 x.n y.n = 0 then cmp3 x.i y.i else cmp3 x.n y.n) else cmp3 x.k y.k

set_option maxRecDepth 100000 in
theorem nan3_ok (a : Int) (w : World) : Calls Tryz.prog 117 #[.int .i64 a] w fun e w' => e = .returned (.bool false) ∧ w' = w := by
  go_enter Tryz.func117, Tryz.ntmps117
  go_wp2
  go_ret
  exact ⟨by simp, rfl⟩

set_option maxRecDepth 100000 in
set_option maxHeartbeats 800000 in
theorem compare3_ok (a b : Int) (w : World) : Calls Tryz.prog 90 #[.int .i64 a, .int .i64 b] w fun e w' => e = .returned (.int .i64 (cmp3 a b)) ∧ w' = w := by
  have HA : Hid (∀ w, Calls _ _ _ w _) := fun w => nan3_ok a w
  have HB : Hid (∀ w, Calls _ _ _ w _) := fun w => nan3_ok b w
  by_cases h1 : a < b
  · have e : cmp3 a b = -1 := by unfold cmp3; rw [if_pos h1]
    rw [e]
    clear e
    go_enter Tryz.func90, Tryz.ntmps90
    go_wp2_with fail
    refine (HA.out _).mono ?_
    rintro q w1 ⟨rfl, rfl⟩
    go_wp2_with fail
    refine (HB.out _).mono ?_
    rintro q w2 ⟨rfl, rfl⟩
    go_wp2
    go_ret
    exact ⟨rfl, rfl⟩
  · by_cases h2 : b < a
    · have e : cmp3 a b = 1 := by unfold cmp3; rw [if_neg h1, if_pos h2]
      rw [e]
      clear e
      go_enter Tryz.func90, Tryz.ntmps90
      go_wp2_with fail
      refine (HA.out _).mono ?_
      rintro q w1 ⟨rfl, rfl⟩
      go_wp2_with fail
      refine (HB.out _).mono ?_
      rintro q w2 ⟨rfl, rfl⟩
      go_wp2
      go_ret
      exact ⟨rfl, rfl⟩
    · have e : cmp3 a b = 0 := by unfold cmp3; rw [if_neg h1, if_neg h2]
      rw [e]
      clear e
      go_enter Tryz.func90, Tryz.ntmps90
      go_wp2_with fail
      refine (HA.out _).mono ?_
      rintro q w1 ⟨rfl, rfl⟩
      go_wp2_with fail
      refine (HB.out _).mono ?_
      rintro q w2 ⟨rfl, rfl⟩
      go_wp2
      go_ret
      exact ⟨rfl, rfl⟩

set_option maxRecDepth 100000 in
set_option maxHeartbeats 800000 in
/-- cmp.Or of three numbers -/
theorem or3_ok (a b d : Int) (g : Nat) (w : World) (c0 : w.cell? ⟨g, 0, none⟩ = some (.int .i64 a)) (c1 : w.cell? ⟨g, 1, none⟩ = some (.int .i64 b)) (c2 : w.cell? ⟨g, 2, none⟩ = some (.int .i64 d)) : Calls Tryz.prog 89 #[.slice (some ⟨g, 0, none⟩) 3 3] w fun e w' => e = .returned (.int .i64 (if a = 0 then (if b = 0 then d else b) else a)) ∧ w' = w := by
  by_cases h1 : a = 0
  · subst h1
    rw [if_pos rfl]
    by_cases h2 : b = 0
    · subst h2
      rw [if_pos rfl]
      by_cases h3 : d = 0
      · subst h3
        go_enter Tryz.func89, Tryz.ntmps89
        go_wp2
        go_rounds 4
        go_ret
        exact ⟨rfl, rfl⟩
      · go_enter Tryz.func89, Tryz.ntmps89
        go_wp2
        go_rounds 4
        go_ret
        exact ⟨rfl, rfl⟩
    · rw [if_neg h2]
      go_enter Tryz.func89, Tryz.ntmps89
      go_wp2
      go_rounds 4
      go_ret
      exact ⟨rfl, rfl⟩
  · rw [if_neg h1]
    go_enter Tryz.func89, Tryz.ntmps89
    go_wp2
    go_rounds 4
    go_ret
    exact ⟨rfl, rfl⟩

theorem lt3 (x y : K3) : ltOf ris3 x y = decide (x.k < y.k ∨ x.k = y.k ∧ (x.n < y.n ∨ x.n = y.n ∧ x.i < y.i)) := by
  unfold ltOf ris3 cmp3
  by_cases h1 : x.k < y.k
  · simp [h1]
  · by_cases h2 : y.k < x.k
    · have : ¬ x.k = y.k := by omega
      simp [h1, h2, this]
    · have e1 : x.k = y.k := by omega
      by_cases h3 : x.n < y.n
      · simp [e1, h3]
      · by_cases h4 : y.n < x.n
        · have : ¬ x.n = y.n := by omega
          simp [e1, h3, h4, this]
        · have e2 : x.n = y.n := by omega
          by_cases h5 : x.i < y.i
          · simp [e1, e2, h5]
          · by_cases h6 : y.i < x.i <;> simp [e1, e2, h5, h6]
theorem swo3 : SWO (ltOf ris3) where
  irrefl x := by rw [lt3]; simp
  trans x y z h1 h2 := by rw [lt3] at *; simp at *; omega
  ntrans x y z h1 h2 := by rw [lt3] at *; simp at *; omega
theorem tot3 (x y : K3) (h1 : ltOf ris3 x y = false) (h2 : ltOf ris3 y x = false) : x = y := by
  rw [lt3] at h1 h2
  simp at h1 h2
  cases x
  cases y
  simp at *
  omega
/-- things sorted -/
def srt3 (l : List K3) : List K3 := l.mergeSort fun x y => !(ltOf ris3) y x
theorem srt3_len (l : List K3) : (srt3 l).length = l.length := (List.mergeSort_perm _ _).length_eq
theorem srt3_perm {a b : List K3} (h : a.Perm b) : srt3 a = srt3 b := by
  have tr : ∀ x y z : K3, (!(ltOf ris3) y x) = true → (!(ltOf ris3) z y) = true → (!(ltOf ris3) z x) = true := fun x y z h1 h2 => by
    rw [lt3] at *
    simp only [Bool.not_eq_true', decide_eq_false_iff_not] at *
    omega
  have tt : ∀ x y : K3, ((!(ltOf ris3) y x) || (!(ltOf ris3) x y)) = true := fun x y => by
    rw [lt3, lt3]
    simp only [Bool.or_eq_true, Bool.not_eq_true', decide_eq_false_iff_not]
    omega
  refine List.Perm.eq_of_pairwise (le := fun x y => (!(ltOf ris3) y x) = true) (fun x y _ _ h1 h2 => ?_) (List.pairwise_mergeSort tr tt a) (List.pairwise_mergeSort tr tt b) (((List.mergeSort_perm a _).trans h).trans (List.mergeSort_perm b _).symm)
  simp only [Bool.not_eq_true'] at h1 h2
  exact tot3 x y h2 h1

theorem flat3_len (G : K3 → G3) : ∀ l : List K3, (flat3 G l).length = l.length * 5
  | [] => rfl
  | x :: l => by show (cE G x ++ flat3 G l).length = (l.length + 1) * 5; rw [List.length_append, flat3_len G l]; simp [cE]; omega
theorem flat3_get (G : K3 → G3) : ∀ (l : List K3) (j r : Nat), j < l.length → r < 5 → (flat3 G l)[j * 5 + r]? = (cE G (l.getD j default))[r]?
  | [], j, r, h, _ => absurd h (Nat.not_lt_zero _)
  | x :: l, 0, r, _, hr => by
    show (cE G x ++ flat3 G l)[0 * 5 + r]? = _
    rw [List.getElem?_append_left (by simp [cE]; omega), Nat.zero_mul, Nat.zero_add]
    rfl
  | x :: l, j + 1, r, h, hr => by
    have := flat3_get G l j r (by simpa using h) hr
    show (cE G x ++ flat3 G l)[(j + 1) * 5 + r]? = _
    rw [List.getElem?_append_right (by simp [cE]; omega)]
    have e : (j + 1) * 5 + r - (cE G x).length = j * 5 + r := by simp [cE]; omega
    rw [e, this]
    rfl
/-- records as a slice that can be read, in blocks of which Z holds -/
def R3 (w : World) (Z : Nat → Prop) (G : K3 → G3) (v : Value) (l : List K3) : Prop := ∃ p cap, v = .slice p l.length cap ∧ ∀ j, j < l.length → ∃ g o, p = some ⟨g, o, none⟩ ∧ Z g ∧ ∀ r u, (cE G (l.getD j default))[r]? = some u → w.cell? ⟨g, o + j * 5 + r, none⟩ = some u
theorem R3.keep {S Z : Nat → Prop} {w w' : World} {G : K3 → G3} {v : Value} {l : List K3} (h : R3 w Z G v l) (k : Kp S w w') (hS : ∀ b, Z b → b < w.heap.size → ¬ S b) : R3 w' Z G v l := by
  obtain ⟨p, cap, e, hc⟩ := h
  refine ⟨p, cap, e, fun j hj => ?_⟩
  obtain ⟨g, o, e2, hz, c1⟩ := hc j hj
  exact ⟨g, o, e2, hz, fun r u hu => k.cellv (c1 r u hu) (hS g hz (World.block_lt_of_cell? w _ (c1 r u hu)))⟩
theorem R3.mono {Z Z' : Nat → Prop} {w : World} {G : K3 → G3} {v : Value} {l : List K3} (h : R3 w Z G v l) (hz : ∀ b, Z b → Z' b) : R3 w Z' G v l := by
  obtain ⟨p, cap, e, hc⟩ := h
  refine ⟨p, cap, e, fun j hj => ?_⟩
  obtain ⟨g, o, e2, hz', c1⟩ := hc j hj
  exact ⟨g, o, e2, hz g hz', c1⟩
theorem R3.nil (w : World) (Z : Nat → Prop) (G : K3 → G3) (p : Option Addr) (cap : Nat) : R3 w Z G (.slice p 0 cap) [] := ⟨p, cap, rfl, fun j hj => absurd hj (Nat.not_lt_zero _)⟩
theorem isAggR (w : World) : (isAgg 62).run Tryz.prog w = .ok true w := by kernel_rfl
theorem sizeR (w : World) : (Go.sizeOf 62).run Tryz.prog w = .ok 5 w := by kernel_rfl
theorem flat3_getE (G : K3 → G3) (d : Array K3) (t : Nat) (h : t < d.size * 5) : (flatK (cE G) 5 d)[t]! = (cE G d[t / 5]!)[t % 5]! := get_flatK (cE G) 5 d t h

set_option maxRecDepth 100000 in
set_option maxHeartbeats 1600000 in
theorem tcomp_ok (x y : K3) (W : World) : Calls Tryz.prog 69 #[pv3 x, pv3 y] W fun e w' => e = .returned (.int .i64 (ris3 x y)) ∧ ∃ q os', w' = grow (W.drewN q) os' := by
  obtain ⟨a, b, f⟩ := x
  obtain ⟨c, d, h⟩ := y
  have HA : Hid (∀ w, Calls _ _ _ w _) := fun w => compare3_ok a c w
  have HB : Hid (∀ w, Calls _ _ _ w _) := fun w => compare3_ok b d w
  have HC : Hid (∀ w, Calls _ _ _ w _) := fun w => compare3_ok f h w
  have HR : Hid (ris3 ⟨a, b, f⟩ ⟨c, d, h⟩ = if cmp3 a c = 0 then (if cmp3 b d = 0 then cmp3 f h else cmp3 b d) else cmp3 a c) := rfl
  obtain ⟨p, hp⟩ : ∃ p, p = cmp3 a c := ⟨_, rfl⟩
  obtain ⟨q, hq⟩ : ∃ q, q = cmp3 b d := ⟨_, rfl⟩
  obtain ⟨s, hs⟩ : ∃ q, q = cmp3 f h := ⟨_, rfl⟩
  obtain ⟨r, hr⟩ : ∃ r, r = ris3 ⟨a, b, f⟩ ⟨c, d, h⟩ := ⟨_, rfl⟩
  rw [← hp] at HA HR
  rw [← hq] at HB HR
  rw [← hs] at HC HR
  rw [← hr] at HR ⊢
  clear hp hq hs hr
  go_enter Tryz.func69, Tryz.ntmps69
  go_wp2_with fail
  have hx : Lv (W.alloc (.cells #[.int .i64 a, .int .i64 b, .int .i64 f] 60)) W.heap.size [.int .i64 a, .int .i64 b, .int .i64 f] := Lv.new W _ _
  have hy : Lv ((W.alloc (.cells #[.int .i64 a, .int .i64 b, .int .i64 f] 60)).alloc (.cells #[.int .i64 c, .int .i64 d, .int .i64 h] 60)) (W.heap.size + 1) [.int .i64 c, .int .i64 d, .int .i64 h] := by
    have := Lv.new (W.alloc (.cells #[.int .i64 a, .int .i64 b, .int .i64 f] 60)) #[.int .i64 c, .int .i64 d, .int .i64 h] 60
    rwa [World.size_alloc] at this
  have k1 : Kp (fun _ => False) (W.alloc (.cells #[.int .i64 a, .int .i64 b, .int .i64 f] 60)) ((W.alloc (.cells #[.int .i64 a, .int .i64 b, .int .i64 f] 60)).alloc (.cells #[.int .i64 c, .int .i64 d, .int .i64 h] 60)) := (Kp.refl _ _).alloc _
  replace hx := hx.keep k1 (fun e => e)
  clear k1
  obtain ⟨w1, hw1⟩ : ∃ x, x = (W.alloc (.cells #[.int .i64 a, .int .i64 b, .int .i64 f] 60)).alloc (.cells #[.int .i64 c, .int .i64 d, .int .i64 h] 60) := ⟨_, rfl⟩
  rw [← hw1] at hx hy ⊢
  have kd : Kp (fun _ => False) w1 { w1 with drawn := w1.drawn + 1 } := (Kp.refl _ _).drew
  replace hx := hx.keep kd (fun e => e)
  replace hy := hy.keep kd (fun e => e)
  refine wp_region_still_tail 15 (by kernel_rfl) (by kernel_rfl) ?_
  obtain ⟨w2, hw2⟩ : ∃ x, x = { w1 with drawn := w1.drawn + 1 } := ⟨_, rfl⟩
  obtain ⟨g, hg⟩ : ∃ g, g = W.heap.size := ⟨_, rfl⟩
  rw [← hw2] at hx hy ⊢
  rw [← hg] at hx hy ⊢
  have HW : Hid (w2 = { w1 with drawn := w1.drawn + 1 } ∧ w1 = (W.alloc (.cells #[.int .i64 a, .int .i64 b, .int .i64 f] 60)).alloc (.cells #[.int .i64 c, .int .i64 d, .int .i64 h] 60)) := ⟨hw2, hw1⟩
  clear hw1 hw2 kd hg
  have x0 := hx.cell (j := 0) rfl
  have x1 := hx.cell (j := 1) rfl
  have x2 := hx.cell (j := 2) rfl
  have y0 := hy.cell (j := 0) rfl
  have y1 := hy.cell (j := 1) rfl
  have y2 := hy.cell (j := 2) rfl
  clear hx hy
  simp only [List.take_succ_cons, List.take_zero, List.drop_succ_cons, List.drop_zero]
  iterate 4 still_step
  still_call (HA.out w2)
  iterate 4 still_step
  still_call (HB.out w2)
  iterate 4 still_step
  still_call (HC.out w2)
  refine wpStill_nil ?_
  clear x0 x1 x2 y0 y1 y2 HA HB HC
  go_wp2_with fail
  have hz : Lv (w2.alloc (.cells #[.int .i64 p, .int .i64 q, .int .i64 s] 3)) w2.heap.size [.int .i64 p, .int .i64 q, .int .i64 s] := Lv.new w2 _ _
  refine (or3_ok p q s _ _ (hz.cell (j := 0) rfl) (hz.cell (j := 1) rfl) (hz.cell (j := 2) rfl)).mono ?_
  rintro e w' ⟨rfl, rfl⟩
  clear hz
  rw [← HR.out]
  go_wp2
  go_ret
  refine ⟨rfl, 1, #[.cells #[.int .i64 a, .int .i64 b, .int .i64 f] 60, .cells #[.int .i64 c, .int .i64 d, .int .i64 h] 60, .cells #[.int .i64 p, .int .i64 q, .int .i64 s] 3], ?_⟩
  rw [HW.out.1, HW.out.2]
  simp only [alloc_eq_grow, grow_grow]
  rfl

theorem drewN_drewN (W : World) (a b : Nat) : (W.drewN a).drewN b = W.drewN (a + b) := by unfold World.drewN; simp [Nat.add_assoc]
theorem drewN_grow (W : World) (a : Nat) (os : Array Obj) : (grow W os).drewN a = grow (W.drewN a) os := rfl

set_option maxRecDepth 100000 in
set_option maxHeartbeats 1600000 in
theorem cl3_ok (G : K3 → G3) (x y : K3) (W : World) : Calls Tryz.prog 68 #[vE G x, vE G y] W fun e w' => e = .returned (.int .i64 (ris3 x y)) ∧ ∃ q os', w' = grow (W.drewN q) os' := by
  obtain ⟨⟨e1, p1, n1, c1⟩, hx⟩ : ∃ z, z = G x := ⟨_, rfl⟩
  obtain ⟨⟨e2, p2, n2, c2⟩, hy⟩ : ∃ z, z = G y := ⟨_, rfl⟩
  simp only [vE]
  rw [← hx, ← hy]
  clear hx hy
  have HT : Hid (∀ w, Calls _ _ _ w _) := fun w => tcomp_ok x y w
  obtain ⟨r, hr⟩ : ∃ r, r = ris3 x y := ⟨_, rfl⟩
  rw [← hr] at HT ⊢
  clear hr
  obtain ⟨a, b, f⟩ := x
  obtain ⟨c, d, h⟩ := y
  dsimp only
  go_enter Tryz.func68, Tryz.ntmps68
  go_wp2_with fail
  refine (HT.out _).mono ?_
  rintro e w' ⟨rfl, q, os', hw⟩
  clear HT
  have HW : Hid (∃ q os', w' = grow (W.drewN q) os') := by
    refine ⟨q, #[.cells #[.int .i64 a, .int .i64 b, .int .i64 f, .int .i64 e1, .slice p1 n1 c1] 62, .cells #[.int .i64 c, .int .i64 d, .int .i64 h, .int .i64 e2, .slice p2 n2 c2] 62] ++ os', ?_⟩
    rw [hw]
    simp only [alloc_eq_grow, grow_grow, drewN_grow]
    rfl
  clear hw
  go_wp2
  go_ret
  exact ⟨rfl, HW.out⟩

theorem cmp3P (G : K3 → G3) (blk off size : Nat) (w : World) : CmpLays Tryz.prog 68 #[] (cE G) 5 ris3 blk off size w := fun _ _ _ _ x y => cl3_ok G x y _
theorem sort3 (G : K3 → G3) (blk off cap : Nat) (d : List K3) (w : World) (hH : HoldsK (cE G) 5 w blk off d.toArray) (hblk : blk < w.heap.size) (hsz : d.length < 4611686018427387904) :
    Calls Tryz.prog 67 #[.slice (some ⟨blk, off, none⟩) d.length cap, .func (.func 68) #[] #[]] w fun e w' => e = .returned (.tuple #[]) ∧ ∃ n os, w' = sortWorldK (cE G) 5 w blk off n (srt3 d).toArray os := by
  have h := AnyQ.slices_SortFunc_total Tryz.sortFA 5 isAggR sizeR (cE G) (fun _ => rfl) (fun x v hv => by simp [cE] at hv; rcases hv with rfl | rfl | rfl | rfl | rfl <;> rfl) ris3 swo3 68 #[] blk off cap d.toArray w (enters_of Tryz.func68 (by kernel_rfl) rfl) (cmp3P G blk off _ w) hH hblk (by simpa using hsz) tot3
  exact h
theorem sort30 (p : Option Addr) (cap : Nat) (fv : Value) (w : World) : Calls Tryz.prog 67 #[.slice p 0 cap, fv] w fun e w' => e = .returned (.tuple #[]) ∧ w' = w :=
  AnyF.slices_SortFunc_none Tryz.sortFA p cap fv w
theorem kp_sortW3 {α : Type} [Inhabited α] (enc : α → List Value) (k : Nat) (w : World) (blk off n : Nat) (d : Array α) (os : Array Obj) : Kp (fun b => b = blk) w (sortWorldK enc k w blk off n d os) := by
  unfold sortWorldK grow putRowK putRow mapBlock Sort.ahead
  refine ⟨rfl, rfl, rfl, by simp, fun b hb hn => ?_⟩
  dsimp only
  rw [Array.getElem?_append_left (by simpa using hb)]
  rw [Array.getElem?_modify, if_neg (fun e => hn e.symm)]
theorem own_frz3 {w : World} {base g n cap sz : Nat} {e : TypeId} {xs : List Value} (h : w.ownsRow base e sz (.slice (some ⟨g, 0, none⟩) n cap) n xs) (j : Nat) : w.frozen? ⟨g, j, none⟩ = false := by
  obtain ⟨h1, h2⟩ := h
  rcases h2 with ⟨h0, _⟩ | ⟨g2, cap2, cur, hv, hg, hh, hn, hcap, hsz, htake⟩
  · cases h0
  · cases hv
    exact frozen_of_row _ _ _ cur _ hh
theorem cE_get (G : K3 → G3) (x : K3) (r : Nat) (hr : r < 5) : (cE G x)[r]? = some ((cE G x)[r]!) := by
  rw [List.getElem!_eq_getElem?_getD, List.getElem?_eq_getElem (by simpa [cE] using hr)]
  rfl
/-- slices.SortFunc of a row of one's own -/
theorem sort3own {w : World} {base : Nat} {G : K3 → G3} {v : Value} {d : List K3} (h : w.ownsRow base 62 5 v d.length (flat3 G d)) (hd : d.length ≤ 100000) :
    Calls Tryz.prog 67 #[v, .func (.func 68) #[] #[]] w fun e w' => e = .returned (.tuple #[]) ∧ Kp (fun b => v.ownBlock = some b) w w' ∧ R3 w' (fun b => v.ownBlock = some b) G v (srt3 d) := by
  rcases Joins.ownsRow_forms h with ⟨e1, e2⟩ | ⟨g, cap, e⟩
  · have : d = [] := List.eq_nil_of_length_eq_zero e2
    subst this
    rw [e1]
    refine (sort30 none 0 _ w).mono ?_
    rintro e w' ⟨rfl, rfl⟩
    have e0 : srt3 [] = [] := List.eq_nil_of_length_eq_zero (srt3_len [])
    exact ⟨rfl, Kp.refl _ _, by rw [e0]; exact R3.nil _ _ _ _ _⟩
  · have hb := (ownBlock_lt h (g := g) (by rw [e]; rfl)).2
    rw [e] at h ⊢
    have hH : HoldsK (cE G) 5 w g 0 d.toArray := fun t ht => by
      have ht2 : t < d.length * 5 := by simpa using ht
      refine ⟨?_, own_frz3 h _⟩
      rw [flat3_getE _ _ _ (by simpa using ht)]
      have hj : t / 5 < d.length := by omega
      have e3 : (d.toArray[t / 5]!) = d.getD (t / 5) default := by
        rw [List.getElem!_toArray, List.getElem!_eq_getElem?_getD, List.getD_eq_getElem?_getD]
      have e4 := (flat3_get G d (t / 5) (t % 5) hj (by omega)).trans (cE_get G _ _ (by omega))
      have := h.cells (g := g) rfl (t / 5 * 5 + t % 5) _ e4
      rw [Addr.add_mid, Nat.zero_add, show t / 5 * 5 + t % 5 = t by omega] at this
      rw [e3, Nat.zero_add]
      exact this
    refine (sort3 G g 0 cap d w hH hb (by omega)).mono ?_
    rintro q w' ⟨rfl, n, os, rfl⟩
    have hfin : HoldsK (cE G) 5 (sortWorldK (cE G) 5 w g 0 n (srt3 d).toArray os) g 0 (srt3 d).toArray :=
      holdsK_grow _ _ _ os g 0 _ (by simp [putRowK, putRow, mapBlock, Sort.ahead]; exact hb) (holdsK_putRowK _ _ _ g 0 d.toArray _ (holdsK_ahead _ _ _ n g 0 _ hH) (by simp [srt3_len]))
    refine ⟨rfl, (kp_sortW3 (cE G) 5 w g 0 n _ os).mono (fun b _ e => by rw [e]; rfl), some ⟨g, 0, none⟩, cap, by rw [srt3_len], fun j hj => ⟨g, 0, rfl, rfl, fun r u hu => ?_⟩⟩
    have hr : r < 5 := by
      have := (List.getElem?_eq_some_iff.1 hu).1
      simpa [cE] using this
    have := (hfin (j * 5 + r) (by simp; omega)).1
    rw [flat3_getE _ _ _ (by simp; omega)] at this
    have e3 : ((srt3 d).toArray[(j * 5 + r) / 5]!) = (srt3 d).getD j default := by
      rw [List.getElem!_toArray, List.getElem!_eq_getElem?_getD, List.getD_eq_getElem?_getD, show (j * 5 + r) / 5 = j by omega]
    rw [e3, show (j * 5 + r) % 5 = r by omega] at this
    have e5 := cE_get G ((srt3 d).getD j default) r hr
    rw [hu] at e5
    rw [Option.some.inj e5, Nat.add_assoc]
    exact this

theorem len_sub {α : Type} [DecidableEq α] : ∀ (l m : List α), l.Nodup → (∀ x ∈ l, x ∈ m) → l.length ≤ m.length
  | [], _, _, _ => Nat.zero_le _
  | a :: t, m, hn, hs => by
    have ha := hs a List.mem_cons_self
    have h1 := len_sub t (m.erase a) (List.nodup_cons.1 hn).2 (fun x hx => (List.mem_erase_of_ne (fun e => (List.nodup_cons.1 hn).1 (by rw [← e]; exact hx))).2 (hs x (List.mem_cons_of_mem _ hx)))
    have h2 := List.length_erase_of_mem ha
    have h3 := List.length_pos_of_mem ha
    simp only [List.length_cons]
    omega
end Go.Proofs.YtblaabjjcanifaaGreatDoor

/- A shelf's stock, all of it in order. -/
namespace Go.Proofs.YtblaabjjcanifaaGreatDoor
set_option linter.unusedVariables false
set_option linter.unusedSimpArgs false
open Go.RowKit Go.Deep Go.Maps

instance : Nonempty G3 := ⟨⟨0, none, 0, 0⟩⟩
theorem stS_sub (h : List Rc) : ∀ (x : K3) (o : Rc), (stS h).1 x = some o → x = subS o ∧ staysS o = true := by
  suffices H : ∀ n, ∀ h : List Rc, h.length = n → ∀ (x : K3) (o : Rc), (stS h).1 x = some o → x = subS o ∧ staysS o = true from H _ h rfl
  intro n
  induction n with
  | zero =>
    intro h hl x o e
    rw [List.eq_nil_of_length_eq_zero hl, stS_nil] at e
    cases e
  | succ n ih =>
    intro h hl x o e
    obtain ⟨l, r, rfl⟩ : ∃ l r, h = l ++ [r] := ⟨h.dropLast, h.getLast (by intro e; subst e; simp at hl), (List.dropLast_concat_getLast _).symm⟩
    rw [stS_at] at e
    by_cases h1 : x = subS r
    · rw [if_pos h1] at e
      by_cases h2 : staysS r = true
      · rw [if_pos h2] at e
        cases e
        exact ⟨h1, h2⟩
      · rw [if_neg h2] at e; cases e
    · rw [if_neg h1] at e
      exact ih l (by simpa using hl) x o e
theorem sub_parts {o : Rc} (h : staysS o = true) : (subS o).k = (o.k : Int) ∧ (subS o).n = (o.n : Int) ∧ (subS o).i = (o.i : Int) := by
  unfold staysS at h
  have h2 : o.k ≠ 2 := by
    intro e
    simp [e] at h
  unfold subS
  rw [if_neg h2]
  exact ⟨rfl, rfl, rfl⟩
/-- what is told of a thing: its record in memory -/
def GofS (w : World) (Z : Nat → Prop) (h : List Rc) (G : K3 → G3) : Prop := ∀ x o, wf3 x → (stS h).1 x = some o → x.k = (o.k : Int) ∧ x.n = (o.n : Int) ∧ x.i = (o.i : Int) ∧ (G x).e = (o.e : Int) ∧ (G x).n = o.b.length ∧ Rb w (G x).p o.b.length o.b ∧ (∀ a, (G x).p = some a → Z a.block) ∧ GoodR o
theorem GofS.keep {w w' : World} {S Z : Nat → Prop} {h : List Rc} {G : K3 → G3} (x : GofS w Z h G) (k : Kp S w w') (hS : ∀ b, Z b → ¬ S b) : GofS w' Z h G := fun y o hw e => by
  obtain ⟨a1, a2, a3, a4, a5, a6, a7, a8⟩ := x y o hw e
  exact ⟨a1, a2, a3, a4, a5, a6.keep k (fun a ha _ => hS _ (a7 a ha)), a7, a8⟩
/-- the things that are there, in whatever order -/
def Ths (h : List Rc) (ss : List K3) : Prop := ss.Nodup ∧ ∀ x, x ∈ ss ↔ wf3 x ∧ ∃ o, (stS h).1 x = some o
theorem Ths.perm {h : List Rc} {a b : List K3} (ha : Ths h a) (hb : Ths h b) : a.Perm b := (List.perm_ext_iff_of_nodup ha.1 hb.1).2 fun x => (ha.2 x).trans (hb.2 x).symm
theorem Ths.len {w : World} {Z : Nat → Prop} {sh mp g : Nat} {h : List Rc} (x : Sk w Z sh mp g h) {ss : List K3} (hs : Ths h ss) : ss.length ≤ 1000 := by
  have h1 := len_sub ss (h.map subS) hs.1 (fun y hy => by
    obtain ⟨_, o, ho⟩ := (hs.2 y).1 hy
    rw [(stS_sub h y o ho).1]
    exact List.mem_map_of_mem ((stS_bd x.g x.n).2.2 y o ho))
  rw [List.length_map] at h1
  exact Nat.le_trans h1 x.n

set_option maxRecDepth 100000 in
set_option maxHeartbeats 1600000 in
theorem sall_ok {w : World} {Z : Nat → Prop} {sh mp g : Nat} {h : List Rc} (x : Sk w Z sh mp g h) :
    Calls Tryz.prog 47 #[.pointer (some ⟨sh, 1, none⟩)] w fun e w' => ∃ v ss G, e = .returned v ∧ Kp (fun _ => False) w w' ∧ R3 w' (fun b => w.heap.size ≤ b) G v (srt3 ss) ∧ Ths h ss ∧ GofS w Z h G := by
  have c1 : w.cell? ⟨sh, 1, none⟩ = some (.map (some mp)) := x.l.cell (j := 1) rfl
  obtain ⟨c, T, hc, ⟨D, hown, hd⟩, hT⟩ := x.m
  obtain ⟨G, hG⟩ : ∃ G : K3 → G3, ∀ y z, T y = some (vE (fun _ => z) y) → T y = some (vE G y) := by
    refine ⟨fun y => (Classical.epsilon fun z : G3 => T y = some (vE (fun _ => z) y)), fun y z hz => ?_⟩
    exact Classical.epsilon_spec (p := fun z : G3 => T y = some (vE (fun _ => z) y)) ⟨z, hz⟩
  have hrec : ∀ y o, wf3 y → (stS h).1 y = some o → ∃ p cp, T y = some (rcV o p cp) ∧ T y = some (vE (fun _ => ⟨o.e, p, o.b.length, cp⟩) y) ∧ Rb w p o.b.length o.b ∧ (∀ a, p = some a → Z a.block) := fun y o hw ho => by
    obtain ⟨p, cp, h1, h2, h3⟩ := (hT y hw).2 o ho
    obtain ⟨e1, e2⟩ := stS_sub h y o ho
    obtain ⟨f1, f2, f3⟩ := sub_parts e2
    refine ⟨p, cp, h1, ?_, h2, h3⟩
    rw [h1, e1]
    simp only [vE, f1, f2, f3]
  have hGof : Gof T G := fun y hw v hv => by
    cases ho : (stS h).1 y with
    | none => rw [(hT y hw).1 ho] at hv; cases hv
    | some o =>
      obtain ⟨p, cp, h1, h2, _⟩ := hrec y o hw ho
      have := hG y _ h2
      rw [hv] at this
      exact Option.some.inj this
  have HGS : Hid (GofS w Z h G) := fun y o hw ho => by
    obtain ⟨p, cp, h1, h2, h3, h4⟩ := hrec y o hw ho
    have e := hG y _ h2
    rw [h2] at e
    have e2 := Option.some.inj e
    simp only [vE, Value.agg.injEq, Array.mk.injEq, List.cons.injEq, Value.int.injEq, Value.slice.injEq, and_true, true_and] at e2
    obtain ⟨e3, e4⟩ := stS_sub h y o ho
    obtain ⟨f1, f2, f3⟩ := sub_parts e4
    obtain ⟨q1, q2, q3, q4⟩ := e2
    refine ⟨by rw [e3, f1], by rw [e3, f2], by rw [e3, f3], q1.symm, q3.symm, by rw [← q2]; exact h3, by rw [← q2]; exact h4, x.g o ((stS_bd x.g x.n).2.2 y o ho)⟩
  have HTh : Hid (∀ ss, V3 D (fun _ => false) ss → Ths h ss) := fun ss hv => by
    refine ⟨hv.1, fun y => ⟨fun hy => ?_, fun hy => ?_⟩⟩
    · have hw := hv.2.1 y hy
      refine ⟨hw, ?_⟩
      have h1 := ((hv.2.2 y hw).1 hy).1
      cases ho : (stS h).1 y with
      | none => rw [hd.no y hw ((hT y hw).1 ho)] at h1; cases h1
      | some o => exact ⟨o, rfl⟩
    · obtain ⟨hw, o, ho⟩ := hy
      obtain ⟨p, cp, h1, _⟩ := hrec y o hw ho
      exact (hv.2.2 y hw).2 ⟨(hd.yes y hw _ h1).1, rfl⟩
  have HLen : Hid (∀ ss, V3 D (fun _ => false) ss → ss.length ≤ 100000) := fun ss hv => by
    have := (HTh.out ss hv).len x
    omega
  have HV : Hid (Calls _ _ _ w _) := valsF_ok mp w
  have k1 : Kp (fun _ => False) w (w.alloc (.cells #[.map (some mp)] 48)) := (Kp.refl _ _).alloc _
  have hl1 : Lv (w.alloc (.cells #[.map (some mp)] 48)) w.heap.size [.map (some mp)] := Lv.new w _ _
  have HC : Hid (Calls _ _ _ (w.alloc (.cells #[.map (some mp)] 48)) _) := collect3 w.heap.size mp c D G T hd hGof (by rw [hd.size]; have := x.n; omega) _ (by simp) (hl1.cell (j := 0) rfl) (by
    have hbl := hown.lt
    obtain ⟨es, clock, hb, Ft, hs, hD⟩ := hown
    exact ⟨es, clock, (k1.block mp hbl (fun e => e)).trans hb, Ft, hs, hD⟩)
  have K1 : Hid (Kp (fun _ => False) w (w.alloc (.cells #[.map (some mp)] 48))) := k1
  clear x hc hown hd hT hG hrec hGof k1 hl1
  go_enter Tryz.func47, Tryz.ntmps47
  go_wp2_with fail
  refine HV.out.mono ?_
  rintro q w1 ⟨rfl, rfl⟩
  clear HV
  go_wp2_with fail
  refine HC.out.mono ?_
  rintro q w2 ⟨v, ss, rfl, h1, h2, h3⟩
  have HS : Hid (Calls _ _ _ w2 _) := sort3own h2 (HLen.out ss h1)
  have HB : Hid (∀ b, v.ownBlock = some b → w.heap.size ≤ b) := fun b e => Nat.le_trans K1.out.size (ownBlock_lt h2 e).1
  have HK : Hid (Ths h ss ∧ Kp (fun _ => False) w w2) := ⟨HTh.out ss h1, K1.out.trans h3 (fun _ _ e => e)⟩
  clear h1 h2 h3 HC
  go_wp2_with fail
  refine HS.out.mono ?_
  rintro q w3 ⟨rfl, k3, p3⟩
  have HF : Hid (Ths h ss ∧ R3 w3 (fun b => w.heap.size ≤ b) G v (srt3 ss) ∧ Kp (fun _ => False) w w3) := ⟨HK.out.1, p3.mono (fun b e => HB.out b e), HK.out.2.trans k3 (fun b hb e => by have := HB.out b e; omega)⟩
  clear k3 p3 HS
  go_wp2
  go_ret
  obtain ⟨f1, f2, f3⟩ := HF.out
  exact ⟨v, ss, G, rfl, f3, f2, f1, HGS.out⟩
end Go.Proofs.YtblaabjjcanifaaGreatDoor
