/- A record's pieces. -/
import Derived.Test.YtippipeebkkghaaGreatDoorAu
import Derived.Lib.SmallJoins
import Derived.BigRegion
namespace Go.Proofs.YtippipeebkkghaaGreatDoor
set_option linter.unusedVariables false
set_option linter.unusedSimpArgs false
open Go.RowKit Go.Deep Go.Maps Go.Shelf

set_option maxRecDepth 100000 in
theorem chunkF_ok (b o len cap : Nat) (w : World) : Calls Tryz.prog 205 #[.slice (some ⟨b, o, none⟩) len cap, .int .i64 40] w fun e w' => e = .returned (.func (.func 222) #[] #[.pointer (some ⟨w.heap.size, 0, none⟩), .pointer (some ⟨w.heap.size + 1, 0, none⟩)]) ∧ w' = (w.alloc (.cells #[.slice (some ⟨b, o, none⟩) len cap] 75)).alloc (.cells #[.int .i64 40] 3) := by
  go_enter Tryz.func205, Tryz.ntmps205
  go_wp2
  go_ret
  exact ⟨rfl, rfl⟩
/-- a piece as it is first laid -/
def rawC (z : Int) (b o len j : Nat) : List Value := [.int .i64 z, chV b o len j, .bool false, .bool false]
theorem infoPc : (Tryz.prog.info? 272).map (fun i => (i.zero.map (·.cells.size), i.size, i.bytes)) = some (some 4, 4, 40) := by kernel_rfl
theorem infoPc2 : ∃ i z, Tryz.prog.info? 272 = some i ∧ i.zero = some z ∧ i.size = 4 ∧ i.bytes = 40 ∧ z.cells.size = 4 := by
  obtain ⟨i, hi, he⟩ := Option.map_eq_some_iff.1 infoPc
  simp only [Prod.mk.injEq] at he
  obtain ⟨h1, h2, h3⟩ := he
  obtain ⟨z, hz, h4⟩ := Option.map_eq_some_iff.1 h1
  exact ⟨i, z, hi, hz, h2, h3, h4⟩

theorem fm_get (f : Nat → List Value) (hf : ∀ j, (f j).length = 4) : ∀ (l : List Nat) (j r : Nat) (h : j < l.length), r < 4 → (l.flatMap f)[j * 4 + r]? = (f l[j])[r]?
  | [], j, r, h, _ => absurd h (Nat.not_lt_zero _)
  | a :: l, 0, r, h, hr => by
    rw [List.flatMap_cons, List.getElem?_append_left (by rw [hf]; omega), Nat.zero_mul, Nat.zero_add]
    rfl
  | a :: l, j + 1, r, h, hr => by
    rw [List.flatMap_cons, List.getElem?_append_right (by rw [hf]; omega), hf, show (j + 1) * 4 + r - 4 = j * 4 + r by omega]
    exact fm_get f hf l j r (by simpa using h) hr
theorem fm_len (f : Nat → List Value) (hf : ∀ j, (f j).length = 4) : ∀ (l : List Nat), (l.flatMap f).length = l.length * 4
  | [] => rfl
  | a :: l => by rw [List.flatMap_cons, List.length_append, hf, fm_len f hf l, List.length_cons]; omega
/-- the pieces' cells -/
def pcsC (z : Int) (b o len K : Nat) : List Value := (((List.range K).flatMap (rawC z b o len)).set 2 (.bool true)).set ((K - 1) * 4 + 3) (.bool true)

set_option maxRecDepth 100000 in
set_option maxHeartbeats 2000000 in
theorem piecesA (z : Int) (b o len cap K : Nat) (hK : Hid (K = (len + 39) / 40 ∧ len ≤ 2000 ∧ len ≤ cap)) (h1 : Hid (1 ≤ len)) (w : World) :
    CallsIn Fence.wide 4 Tryz.prog 166 #[.int .i64 z, .slice (some ⟨b, o, none⟩) len cap] w fun e w' => ∃ v, e = .returned v ∧ w'.ownsRow w.heap.size 272 4 v K (pcsC z b o len K) ∧ Below w.heap.size w w' := by
  have hC : Hid (∀ u, CallsIn Fence.wide 3 Tryz.prog 205 #[.slice (some ⟨b, o, none⟩) len cap, .int .i64 40] u fun e w' => e = .returned (.func (.func 222) #[] #[.pointer (some ⟨u.heap.size, 0, none⟩), .pointer (some ⟨u.heap.size + 1, 0, none⟩)]) ∧ w' = (u.alloc (.cells #[.slice (some ⟨b, o, none⟩) len cap] 75)).alloc (.cells #[.int .i64 40] 3)) := fun u => callsIn_wide.2 (chunkF_ok b o len cap u)
  refine callsIn_of_wp_marks Tryz.func166 rfl trivial ?_ rfl
  simp only [Tryz.ntmps166, List.size_toArray, List.length_cons, List.length_nil, Nat.reduceAdd, Nat.reduceSub, Array.replicate_succ, Array.replicate_zero, List.push_toArray, List.append_toArray, List.nil_append, List.cons_append]
  obtain ⟨B2, hB2⟩ : ∃ x, x = w.heap.size := ⟨_, rfl⟩
  obtain ⟨B5, hB5⟩ : ∃ x, x = w.heap.size + 1 := ⟨_, rfl⟩
  obtain ⟨Bs, hBs⟩ : ∃ x, x = w.heap.size + 1 + 1 := ⟨_, rfl⟩
  obtain ⟨Bn, hBn⟩ : ∃ x, x = w.heap.size + 1 + 1 + 1 := ⟨_, rfl⟩
  obtain ⟨wA, hwA⟩ : ∃ y, y = w.alloc (.cells #[.int .i64 z] 3) := ⟨_, rfl⟩
  obtain ⟨wB, hwB⟩ : ∃ y, y = wA.alloc (.cells #[.slice none 0 0] 269) := ⟨_, rfl⟩
  obtain ⟨wC, hwC⟩ : ∃ y, y = wB.alloc (.cells #[.slice (some ⟨b, o, none⟩) len cap] 75) := ⟨_, rfl⟩
  obtain ⟨wD, hwD⟩ : ∃ y, y = wC.alloc (.cells #[.int .i64 40] 3) := ⟨_, rfl⟩
  have zA : wA.heap.size = w.heap.size + 1 := by rw [hwA]; simp
  have zB : wB.heap.size = w.heap.size + 1 + 1 := by rw [hwB]; simp [zA]
  have zC : wC.heap.size = w.heap.size + 1 + 1 + 1 := by rw [hwC]; simp [zB]
  have zD : wD.heap.size = w.heap.size + 1 + 1 + 1 + 1 := by rw [hwD]; simp [zC]
  have b2 : Boxed wD B2 3 (.int .i64 z) := by
    have h1 : Boxed wA B2 3 (.int .i64 z) := by rw [hwA, hB2]; exact Boxed.new w _ _
    rw [hwD, hwC, hwB]
    exact ((h1.alloc _).alloc _).alloc _
  have b5 : Boxed wD B5 269 (.slice none 0 0) := by
    have h1 : Boxed wB B5 269 (.slice none 0 0) := by rw [hwB, hB5, ← zA]; exact Boxed.new wA _ _
    rw [hwD, hwC]
    exact (h1.alloc _).alloc _
  have cs : wD.cell? ⟨Bs, 0, none⟩ = some (.slice (some ⟨b, o, none⟩) len cap) := by
    have h1 : Boxed wC Bs 75 (.slice (some ⟨b, o, none⟩) len cap) := by rw [hwC, hBs, ← zB]; exact Boxed.new wB _ _
    rw [hwD]
    exact (h1.alloc _).cell
  have cn : wD.cell? ⟨Bn, 0, none⟩ = some (.int .i64 40) := by
    have h1 : Boxed wD Bn 3 (.int .i64 40) := by rw [hwD, hBn, ← zC]; exact Boxed.new wC _ _
    exact h1.cell
  have hb0 : Below w.heap.size w wD := by
    rw [hwD, hwC, hwB, hwA]
    exact (((((Below.refl _ w).alloc (Nat.le_refl _) _).alloc (by simp) _).alloc (by simp; omega) _).alloc (by simp; omega) _)
  have hseq := chunk_stops Fence.wide 3 trivial rfl (by omega) Bs Bn len cap b o K (fun x => x = B5 ∨ wD.heap.size ≤ x) hK wD (by omega) (by omega) ⟨by omega, by omega⟩ cs cn
  obtain ⟨ti, tz, hi0, hz0, hz1, hz2, hz3⟩ := infoPc2
  have hte : 269 ≠ 272 := by decide
  gi_wp2
  refine ⟨trivial, (hC.out _).mono ?_⟩
  rintro e w1 ⟨rfl, hw1⟩
  subst hw1
  gi_wp2
  rw [← hwA, ← hwB, ← hwC, ← hwD, ← hBn, ← hBs, ← hB5, ← hB2]
  have HD : Hid (w.heap.size ≤ B2 ∧ w.heap.size ≤ B5 ∧ B2 ≠ B5 ∧ B2 < wD.heap.size ∧ B5 < wD.heap.size) := ⟨by omega, by omega, by omega, by omega, by omega⟩
  clear hwA hwB hwC hwD hBn hBs hB5 hB2 zA zB zC zD cs cn hC
  refine wpIn_rangeFunc_ownG rfl (by omega) (gf := 222) (lb := #[.pointer (some ⟨Bs, 0, none⟩), .pointer (some ⟨Bn, 0, none⟩)]) rfl trivial (enters_of Tryz.func222 (by kernel_rfl) rfl)
    hseq (fun h k => h.trans k (fun _ _ e => e)) (fun W l o o' hl hW ho _ => ⟨rfl, rfl, rfl, by simp, fun k hk hn => ?_⟩) (Below.refl _ _) (fun _ => rfl)
    (fun pre W => (((∃ v, Boxed W B5 269 v ∧ W.ownsRow wD.heap.size 272 4 v pre.length (pre.flatMap (rawC z b o len)) ∧ True) ∧ Below w.heap.size w W) ∧ Boxed W B2 3 (.int .i64 z)) ∧ wD.heap.size ≤ W.heap.size)
    (fun _ _ _ => False)
    (OwnFrom.and (OwnFrom.and (OwnFrom.and (Own.from (holdsRow_own wD.heap.size B5 269 272 4 List.length (fun pre => pre.flatMap (rawC z b o len)) (fun _ _ => True)) _) (ownFrom_below ?_ ?_)) ?_) ?_)
    (fun _ _ _ _ _ hs _ _ => hs)
    ⟨⟨⟨⟨_, b5, World.ownsRow_nil _ _ _ _, trivial⟩, hb0⟩, b2⟩, Nat.le_refl _⟩
    (fun x => { tmps := #[.int .i64 z, .slice (some ⟨b, o, none⟩) len cap, .pointer (some ⟨B2, 0, none⟩), undef, .slice none 0 0, .pointer (some ⟨B5, 0, none⟩), chV b o len x, .slice (some ⟨b, o, none⟩) len cap, .func (.func 222) #[] #[.pointer (some ⟨Bs, 0, none⟩), .pointer (some ⟨Bn, 0, none⟩)], chV b o len x, undef, undef, undef, undef, undef, undef, undef, undef, undef, undef, undef, undef, undef, undef, undef, undef], defers := [] }) ?assign ?body ?done ?stop
  case refine_1 =>
    have hkl : k ≠ l := fun e => hn (Or.inr (by omega))
    simp [World.putObj, Array.getElem?_setIfInBounds_ne (Ne.symm hkl)]
  case refine_2 => exact Nat.le_refl _
  case refine_3 => exact hb0.size
  case refine_4 =>
    intro s W W' row hs hg hr
    exact hs.kept hg (fun e' => by
      obtain ⟨o, ho, hc⟩ := (hr B2 e'.symm).2
      rw [show W.heap[B2]? = _ from hs] at ho
      cases ho
      cases hc)
  case refine_5 => exact fun s W W' row hs hg _ => Nat.le_trans hs hg.size
  case assign =>
    intro l x W K hK
    gi_wp2_with gi_round_op_a
    exact hK
  case body =>
    rintro l pre x W ⟨⟨⟨⟨v, hv, hrow, _⟩, hB⟩, hz9⟩, hws⟩ hlen
    have HWs : Hid (wD.heap.size ≤ W.heap.size) := hws
    have hc5 := hv.cell
    have hf5 := hv.frozen
    have hc2 := hz9.cell
    have hBs2 := hB.size
    have hlw : pre.length < 60 := by have := hK.out; omega
    obtain ⟨cl, hcl⟩ : ∃ c, c = chL len x := ⟨_, rfl⟩
    obtain ⟨ox, hox⟩ : ∃ y, y = o + 40 * x := ⟨_, rfl⟩
    have hch : chV b o len x = .slice (some ⟨b, ox, none⟩) cl cl := by unfold chV; rw [hcl, hox]
    have HRaw : Hid (rawC z b o len x = [.int .i64 z, .slice (some ⟨b, ox, none⟩) cl cl, .bool false, .bool false]) := by show _ = _; unfold rawC; rw [hch]
    have HCells : Hid (∀ j u, ([.int .i64 z, .slice (some ⟨b, ox, none⟩) cl cl, .bool false, .bool false] : List Value)[j]? = some u → (W.alloc (.cells #[.int .i64 z, .slice (some ⟨b, ox, none⟩) cl cl, .bool false, .bool false] 272)).cell? ((⟨W.heap.size, 0, none⟩ : Addr).add j) = some u) := fun j u hu => by
      rw [Addr.add_mid, Nat.zero_add]
      exact (Lv.new W _ _).cell hu
    have HOne : Hid (∀ u ∈ ([.int .i64 z, .slice (some ⟨b, ox, none⟩) cl cl, .bool false, .bool false] : List Value), u.oneCell' = true) := fun u hu => by
      simp only [List.mem_cons, List.not_mem_nil, or_false] at hu
      rcases hu with rfl | rfl | rfl | rfl <;> rfl
    have HOwn : Hid ((W.alloc (.cells #[.int .i64 z, .slice (some ⟨b, ox, none⟩) cl cl, .bool false, .bool false] 272)).ownsRow wD.heap.size 272 4 v pre.length (pre.flatMap (rawC z b o len))) := hrow.alloc _
    have HBnd : Hid (pre.length + 1 ≤ maxLen ∧ (pre.length + 1) * 40 ≤ 140737488355328 ∧ wD.heap.size ≤ (W.alloc (.cells #[.int .i64 z, .slice (some ⟨b, ox, none⟩) cl cl, .bool false, .bool false] 272)).heap.size) := ⟨by unfold maxLen; omega, by omega, by
      have : wD.heap.size ≤ W.heap.size := HWs.out
      simp
      omega⟩
    have hrow2 : Hid (W.ownsRow wD.heap.size 272 4 v pre.length (pre.flatMap (rawC z b o len))) := hrow
    rw [hch]
    clear hcl hox hch hrow
    gi_wp2_with (first
      | (gi_at_builtin; refine wpListIn_append_own _ rfl _ _ 269 rfl wD.heap.size 272 ti tz 4 40 Tryz.underlying269 hi0 hz0 hz1 hz2 hz3 (by decide) _ _ _ rfl HOwn.out ⟨W.heap.size, 0, none⟩ 1 1 _ rfl rfl HCells.out HOne.out HBnd.out.1 HBnd.out.2.1 HBnd.out.2.2 ?_; intro v' w3 hown' hg3 hnil3
         obtain ⟨g', cap', rfl⟩ := ownsRow_succ hown'
         have hap := Boxed.appended hv hte (ownsRow_base hrow2.out hb0.size) hBs2 HD.out.2.1 (ownsRow_base hown' hb0.size) hg3
         have hc3 := hap.1.cell
         have hf3 := hap.1.frozen
         go_frame)
      | gi_round_op_a)
    have k2 : Kp (fun bb => v.ownBlock = some bb) (W.alloc (.cells #[.int .i64 z, .slice (some ⟨b, ox, none⟩) cl cl, .bool false, .bool false] 272)) w3 := grownBy_kp hg3
    have k1 : Kp (fun _ => False) W (W.alloc (.cells #[.int .i64 z, .slice (some ⟨b, ox, none⟩) cl cl, .bool false, .bool false] 272)) := (Kp.refl _ _).alloc _
    have k3 : Kp (fun bb => bb = B5) w3 (w3.setCell ⟨B5, 0, none⟩ (.slice (some ⟨g', 0, none⟩) (pre.length + 1) cap')) := kp_set
    have hS : Kp (fun y => y = B5 ∨ wD.heap.size ≤ y) W (w3.setCell ⟨B5, 0, none⟩ (.slice (some ⟨g', 0, none⟩) (pre.length + 1) cap')) := ((k1.mono (fun _ _ e => e.elim)).trans k2 (fun bb hb e => Or.inr (ownBlock_lt hrow2.out e).1)).trans k3 (fun _ _ e => Or.inl e)
    have hgB : wD.heap.size ≤ g' := (ownBlock_lt hown' (g := g') rfl).1
    have own9 : (w3.setCell ⟨B5, 0, none⟩ (.slice (some ⟨g', 0, none⟩) (pre.length + 1) cap')).ownsRow wD.heap.size 272 4 (.slice (some ⟨g', 0, none⟩) (pre.length + 1) cap') (pre.length + 1) (pre.flatMap (rawC z b o len) ++ [.int .i64 z, .slice (some ⟨b, ox, none⟩) cl cl, .bool false, .bool false]) := ownsRow_keep hown' k3 (fun g0 e e2 => by
      have e' : some g' = some g0 := e
      injection e' with e'
      have := HD.out
      omega)
    have hnum : Boxed (w3.setCell ⟨B5, 0, none⟩ (.slice (some ⟨g', 0, none⟩) (pre.length + 1) cap')) B2 3 (.int .i64 z) := by
      unfold Boxed
      rw [hS.block B2 (by have := HD.out; have := HWs.out; omega) (fun e => by have := HD.out; omega)]
      exact hz9
    refine ⟨hap.2.2.2.1.from _, hS, ⟨⟨⟨⟨_, hap.2.1, ?_, trivial⟩, hB.trans hap.2.2.2.2⟩, hnum⟩, Nat.le_trans HWs.out hS.size⟩⟩
    have e1 : (pre ++ [x]).length = pre.length + 1 := by rw [List.length_append]; rfl
    have e2 : (pre ++ [x]).flatMap (rawC z b o len) = pre.flatMap (rawC z b o len) ++ [.int .i64 z, .slice (some ⟨b, ox, none⟩) cl cl, .bool false, .bool false] := by rw [List.flatMap_append, List.flatMap_singleton, HRaw.out]
    rw [e1, e2]
    exact own9
  case done =>
    rintro D ys W hD rfl ⟨⟨⟨⟨v, hv, hrow, _⟩, hB⟩, hz9⟩, hws⟩ hK9
    rw [List.length_range] at hrow
    have hK1 : 1 ≤ K := by have := hK.out; have := h1.out; omega
    have hKb : K ≤ 50 := by have := hK.out; omega
    obtain ⟨g, cp, rfl⟩ : ∃ g cp, v = .slice (some ⟨g, 0, none⟩) K cp := by
      rcases Joins.ownsRow_forms hrow with ⟨e1, e2⟩ | ⟨g, cp, e⟩
      · omega
      · exact ⟨g, cp, e⟩
    have hraw : ∀ j, (rawC z b o len j).length = 4 := fun j => rfl
    have hgD : wD.heap.size ≤ g := (ownBlock_lt hrow (g := g) rfl).1
    have hc3 := hv.cell
    have fz : ∀ j, W.frozen? ⟨g, j, none⟩ = false := fun j => own_frzI hrow j
    obtain ⟨y, hy⟩ : ∃ y, y = K - 1 := ⟨_, rfl⟩
    have ca : W.cell? ⟨g, 2, none⟩ = some (.bool false) := by
      have h2 := hrow.cells (g := g) rfl 2 (.bool false) (by
        have := fm_get (rawC z b o len) hraw (List.range K) 0 2 (by rw [List.length_range]; omega) (by omega)
        rw [Nat.zero_mul, Nat.zero_add] at this
        rw [this]; rfl)
      rw [Addr.add_mid, Nat.zero_add] at h2
      exact h2
    have cb : W.cell? ⟨g, y * 4 + 3, none⟩ = some (.bool false) := by
      have h2 := hrow.cells (g := g) rfl (y * 4 + 3) (.bool false) (by
        have := fm_get (rawC z b o len) hraw (List.range K) y 3 (by rw [List.length_range]; omega) (by omega)
        rw [this]; rfl)
      rw [Addr.add_mid, Nat.zero_add] at h2
      exact h2
    have hne : (⟨g, 2, none⟩ : Addr) ≠ ⟨g, y * 4 + 3, none⟩ := fun e => by injection e with _ e; omega
    have cb2 : (W.setCell ⟨g, 2, none⟩ (.bool true)).cell? ⟨g, y * 4 + 3, none⟩ = some (.bool false) := by rw [World.cell?_setCell_other _ _ _ _ hne]; exact cb
    have hlt0 : (0 : Int) < (K : Int) := by omega
    have hlty : (y : Int) < (K : Int) := by omega
    have HW1 : Hid (wrap64 ((K : Int) - 1) = (y : Int)) := by show _ = _; unfold wrap64; omega
    have HO : Hid (((W.setCell ⟨g, 2, none⟩ (.bool true)).setCell ⟨g, y * 4 + 3, none⟩ (.bool true)).ownsRow wD.heap.size 272 4 (.slice (some ⟨g, 0, none⟩) K cp) K (pcsC z b o len K)) := by
      have o1 := own_setI hrow 2 (.bool true) (by rw [fm_len _ hraw, List.length_range]; omega)
      have o2 := own_setI o1 (y * 4 + 3) (.bool true) (by rw [List.length_set, fm_len _ hraw, List.length_range]; omega)
      show World.ownsRow _ _ _ _ _ _ _
      unfold pcsC
      rw [← hy]
      exact o2
    have hgc : ∃ cur, W.heap[g]? = some (.cells cur 272 (0, 0)) := by
      rcases hrow.2 with ⟨h0, _⟩ | ⟨g', cap', cur, hv', hg', hh, hnn, hcap, hsz, htake⟩
      · cases h0
      · cases hv'
        exact ⟨cur, hh⟩
    have hDg : D ≠ g := fun e => by
      obtain ⟨cur, hh⟩ := hgc
      rw [e, hh] at hK9
      cases hK9
    obtain ⟨WF, hWF⟩ : ∃ X, X = ((W.setCell ⟨g, 2, none⟩ (.bool true)).setCell ⟨g, y * 4 + 3, none⟩ (.bool true)).drew := ⟨_, rfl⟩
    have kF : Kp (fun bb => bb = g) W WF := by rw [hWF]; exact (kp_set.trans kp_set (fun _ _ e => e)).drew
    have HOF : Hid (WF.ownsRow wD.heap.size 272 4 (.slice (some ⟨g, 0, none⟩) K cp) K (pcsC z b o len K)) := by
      show World.ownsRow _ _ _ _ _ _ _
      rw [hWF]
      exact ownsRow_keep HO.out (Kp.refl (fun _ => False) _).drew (fun _ _ => id)
    have HKF : Hid (WF.heap[D]? = some (.deferred (some []))) := by
      show _ = _
      rw [kF.block D (by
        by_cases h : D < W.heap.size
        · exact h
        · rw [Array.getElem?_eq_none (by omega)] at hK9; cases hK9) hDg]
      exact hK9
    have hc6 : WF.cell? ⟨B5, 0, none⟩ = some (.slice (some ⟨g, 0, none⟩) K cp) := kF.cellv hc3 (fun e => by
      have e' : B5 = g := e
      have := HD.out
      omega)
    have HBF : Hid (Below w.heap.size w WF) := hB.trans ⟨kF.os, kF.tape, kF.output, kF.size, fun k hk => kF.block k (by have := hB.size; omega) (fun e => by
      have e' : k = g := e
      have := HD.out
      omega)⟩
    have HDD : Hid (wD.heap.size ≤ D) := hD
    clear cb hrow hv hz9 hne HW1 hgc hDg kF
    rw [hy] at hWF cb2
    clear hy hlty
    have hlty : ((K : Int) - 1) < (K : Int) := by omega
    gi_wp2
    gi_region
    rw [← hWF]
    clear hWF
    gi_wp2
    refine ⟨by simp, .inl ⟨_, _, rfl, run_takeDeferred HKF.out, ?_⟩⟩
    exact ⟨_, results_tmp rfl _ _ _, _, rfl, ownsRow_base (ownsRow_putObj HOF.out _ HKF.out rfl) hb0.size, HBF.out.trans (belowK_b (w := w) (Nat.le_refl _) WF D _ _ (by have := HDD.out; have := hb0.size; omega) HKF.out rfl rfl)⟩
  case stop =>
    rintro D c pre W _ _ h _
    exact h.elim
/-- a record's pieces -/
theorem pieces_ok (z : Int) (b o len cap K : Nat) (hK : Hid (K = (len + 39) / 40 ∧ len ≤ 2000 ∧ len ≤ cap)) (h1 : Hid (1 ≤ len)) (w : World) :
    Calls Tryz.prog 166 #[.int .i64 z, .slice (some ⟨b, o, none⟩) len cap] w fun e w' => ∃ v, e = .returned v ∧ w'.ownsRow w.heap.size 272 4 v K (pcsC z b o len K) ∧ Below w.heap.size w w' := (callsIn_wide (n := 4)).1 (piecesA z b o len cap K hK h1 w)
end Go.Proofs.YtippipeebkkghaaGreatDoor
