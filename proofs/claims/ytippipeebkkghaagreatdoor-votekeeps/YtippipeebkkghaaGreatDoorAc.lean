/- A heap of numbers in memory: its list stands in a cell of a struct; Len, Less, Swap. -/
import Derived.Test.YtippipeebkkghaaGreatDoorAb
import Derived.Test.YtippipeebkkghaaGreatDoorQs
import Derived.BigRegion
namespace Go.Proofs.YtippipeebkkghaaGreatDoor
set_option linter.unusedVariables false
set_option linter.unusedSimpArgs false
open Go.RowKit Go.Deep

def nls (l : List Nat) : List Value := l.map fun x => Value.int .i64 ((x : Nat) : Int)
theorem nls_len (l : List Nat) : (nls l).length = l.length := by simp [nls]
theorem nls_append (l m : List Nat) : nls (l ++ m) = nls l ++ nls m := by simp [nls]
theorem nls_take (l : List Nat) (n : Nat) : (nls l).take n = nls (l.take n) := by simp [nls, List.map_take]
theorem nls_set (l : List Nat) (j x : Nat) : nls (l.set j x) = (nls l).set j (.int .i64 ((x : Nat) : Int)) := by simp [nls, List.map_set]
theorem nls_get (l : List Nat) (j : Nat) (h : j < l.length) : (nls l)[j]? = some (.int .i64 ((l.getD j 0 : Nat) : Int)) := by
  unfold nls
  rw [List.getElem?_map, List.getElem?_eq_getElem h, Option.map_some, List.getD_eq_getElem?_getD, List.getElem?_eq_getElem h]; rfl
theorem own_setI {w : World} {base g n cap sz : Nat} {e : TypeId} {xs : List Value} (h : w.ownsRow base e sz (.slice (some ⟨g, 0, none⟩) n cap) n xs) (j : Nat) (u : Value) (hj : j < xs.length) : (w.setCell ⟨g, j, none⟩ u).ownsRow base e sz (.slice (some ⟨g, 0, none⟩) n cap) n (xs.set j u) := by
  obtain ⟨h1, h2⟩ := h
  rcases h2 with ⟨h0, _⟩ | ⟨g', cap', cur, hv, hg, hh, hn, hcap, hsz, htake⟩
  · cases h0
  · cases hv
    refine ⟨by rw [List.length_set]; exact h1, .inr ⟨g, cap, cur.setIfInBounds j u, rfl, hg, ?_, hn, hcap, by simpa using hsz, ?_⟩⟩
    · exact heap_setCell_same w g j cur e u hh
    · rw [Array.toList_setIfInBounds, List.take_set, htake]
theorem own_subI {w : World} {base g n cap sz k : Nat} {e : TypeId} {xs : List Value} (h : w.ownsRow base e sz (.slice (some ⟨g, 0, none⟩) n cap) n xs) (hk : k ≤ n) : w.ownsRow base e sz (.slice (some ⟨g, 0, none⟩) k cap) k (xs.take (k * sz)) := by
  obtain ⟨h1, h2⟩ := h
  rcases h2 with ⟨h0, _⟩ | ⟨g', cap', cur, hv, hg, hh, hn, hcap, hsz, htake⟩
  · cases h0
  · cases hv
    have hm := Nat.mul_le_mul_right sz hk
    refine ⟨by rw [List.length_take, h1]; omega, .inr ⟨g, cap, cur, rfl, hg, hh, by omega, hcap, hsz, ?_⟩⟩
    rw [← htake, List.take_take, Nat.min_eq_left hm]
theorem own_frzI {w : World} {base g n cap sz : Nat} {e : TypeId} {xs : List Value} (h : w.ownsRow base e sz (.slice (some ⟨g, 0, none⟩) n cap) n xs) (j : Nat) : w.frozen? ⟨g, j, none⟩ = false := by
  obtain ⟨h1, h2⟩ := h
  rcases h2 with ⟨h0, _⟩ | ⟨g', cap', cur, hv, hg, hh, hn, hcap, hsz, htake⟩
  · cases h0
  · cases hv
    exact frozen_of_row _ _ _ cur _ hh
theorem mid_get (pre post : List Value) (v : Value) : (pre ++ v :: post)[pre.length]? = some v := by simp
theorem mid_set (pre post : List Value) (v u : Value) : (pre ++ v :: post).take pre.length ++ [u] ++ (pre ++ v :: post).drop (pre.length + 1) = pre ++ u :: post := by
  simp [List.drop_append]
/-- a heap of the numbers l: its list stands at cell o of the struct at block h, its row at block g -/
structure Ip (w : World) (h o g cap : Nat) (pre post : List Value) (l : List Nat) : Prop where
  lv : Lv w h (pre ++ .slice (some ⟨g, 0, none⟩) l.length cap :: post)
  ol : pre.length = o
  ow : w.ownsRow 0 3 1 (.slice (some ⟨g, 0, none⟩) l.length cap) l.length (nls l)
  ne : g ≠ h
section
variable {w : World} {h o g cap : Nat} {pre post : List Value} {l : List Nat}
theorem Ip.hb (x : Ip w h o g cap pre post l) : h < w.heap.size := x.lv.lt (by simp; omega)
theorem Ip.gb (x : Ip w h o g cap pre post l) : g < w.heap.size := (ownBlock_lt x.ow (g := g) rfl).2
theorem Ip.keep {S : Nat → Prop} {w' : World} (x : Ip w h o g cap pre post l) (k : Kp S w w') (hh : ¬ S h) (hg : ¬ S g) : Ip w' h o g cap pre post l :=
  ⟨x.lv.keep k hh, x.ol, ownsRow_keep x.ow k (fun g' e => by have e' : some g = some g' := e; injection e' with e'; subst e'; exact hg), x.ne⟩
theorem Ip.keep0 {w' : World} (x : Ip w h o g cap pre post l) (k : Kp (fun _ => False) w w') : Ip w' h o g cap pre post l := x.keep k id id
theorem Ip.c0 (x : Ip w h o g cap pre post l) : w.cell? ⟨h, o, none⟩ = some (.slice (some ⟨g, 0, none⟩) l.length cap) := by
  have := x.lv.cell (j := o) (by rw [← x.ol]; exact mid_get _ _ _)
  exact this
theorem Ip.fz (x : Ip w h o g cap pre post l) : w.frozen? ⟨h, o, none⟩ = false := x.lv.fz (by rw [← x.ol]; simp)
theorem Ip.cn (x : Ip w h o g cap pre post l) {j : Nat} (hj : j < l.length) : w.cell? ⟨g, j, none⟩ = some (.int .i64 ((l.getD j 0 : Nat) : Int)) := by
  have h1 := x.ow.cells (g := g) rfl j _ (nls_get l j hj)
  rw [Addr.add_mid, Nat.zero_add] at h1
  exact h1
theorem Ip.capLe (x : Ip w h o g cap pre post l) : l.length ≤ cap := by
  obtain ⟨_, h2⟩ := x.ow
  rcases h2 with ⟨h0, _⟩ | ⟨g', cap', cur, hv, hg, hh, hnn, hcap, hsz, htake⟩
  · cases h0
  · cases hv; omega
/-- another list in the same cell -/
theorem Ip.lset (x : Ip w h o g cap pre post l) (u : Value) : Lv (w.setCell ⟨h, o, none⟩ u) h (pre ++ u :: post) := by
  have h1 := x.lv.set1 o u (by rw [← x.ol]; simp)
  rw [← x.ol, mid_set] at h1
  rw [← x.ol]
  exact h1
end

theorem ilv {w : World} {a : Addr} {v : Value} (hc : w.cell? a = some v) : (loadVar 135 a).run Tryz.prog w = .ok v w := by
  simp [loadVar, hc]
theorem iwrap (a : Addr) (s m : String) (w : World) : (Builtin.ssaWrapNilChk_ #[275] 275 #[.pointer (some a), strVal s, strVal m]).run Tryz.prog w = .ok (.pointer (some a)) w := rfl
theorem imeth (k : Nat) (nm : String) (f : Nat) (hm : ((Tryz.prog.info? 275).bind (fun i => i.methods.find? (·.name == nm))).map (fun m => (m.path, m.func)) = some (#[], some (f, false))) (a : Addr) (w : World) (v : Value) (hc : (loadVar 135 a).run Tryz.prog w = .ok v w) : (method (k + 1) 275 (.pointer (some a)) nm).run Tryz.prog w = .ok (f, v) w := by
  obtain ⟨m, hm1, hm2⟩ := Option.map_eq_some_iff.1 hm
  obtain ⟨i, hi, hf⟩ := Option.bind_eq_some_iff.1 hm1
  simp only [Prod.mk.injEq] at hm2
  have hu : Tryz.prog.underlying 275 = some (.pointer 135) := Tryz.underlying275
  simp [method, typeInfo, hi, hf, hm2.1, hm2.2, follow, receiverAt, run_underlying hu, Place.get, iwrap, asAddr, hc]
theorem mPushI (v : Value) (w : World) : (method 448 275 v "Push").run Tryz.prog w = .ok (263, v) w := by kernel_rfl
theorem mPopI (v : Value) (w : World) : (method 448 275 v "Pop").run Tryz.prog w = .ok (262, v) w := by kernel_rfl
theorem mLenI {a : Addr} {v : Value} {w : World} (hc : w.cell? a = some v) : (method 448 275 (.pointer (some a)) "Len").run Tryz.prog w = .ok (187, v) w := imeth 447 "Len" _ (by kernel_rfl) _ w v (ilv hc)
theorem mLessI {a : Addr} {v : Value} {w : World} (hc : w.cell? a = some v) : (method 448 275 (.pointer (some a)) "Less").run Tryz.prog w = .ok (245, v) w := imeth 447 "Less" _ (by kernel_rfl) _ w v (ilv hc)
theorem mSwapI {a : Addr} {v : Value} {w : World} (hc : w.cell? a = some v) : (method 448 275 (.pointer (some a)) "Swap").run Tryz.prog w = .ok (246, v) w := imeth 447 "Swap" _ (by kernel_rfl) _ w v (ilv hc)

set_option maxRecDepth 100000 in
theorem ilen (p : Option Addr) (n c : Nat) (w : World) : Calls Tryz.prog 187 #[.slice p n c] w fun e w' => e = .returned (.int .i64 n) ∧ w' = w := by
  go_enter Tryz.func187, Tryz.ntmps187
  go_wp2
  go_ret
  exact ⟨rfl, rfl⟩

set_option maxRecDepth 100000 in
set_option maxHeartbeats 800000 in
theorem iless {w : World} {h o g cap : Nat} {pre post : List Value} {l : List Nat} (x : Ip w h o g cap pre post l) (i j : Nat) (hi : i < l.length) (hj : j < l.length) :
    Calls Tryz.prog 245 #[.slice (some ⟨g, 0, none⟩) l.length cap, .int .i64 i, .int .i64 j] w fun e w' => e = .returned (.bool (decide (l.getD i 0 < l.getD j 0))) ∧ Kp (fun _ => False) w w' := by
  have ci := x.cn hi
  have cj := x.cn hj
  obtain ⟨a, ha⟩ : ∃ a, a = l.getD i 0 := ⟨_, rfl⟩
  obtain ⟨b, hb⟩ : ∃ b, b = l.getD j 0 := ⟨_, rfl⟩
  rw [← ha] at ci ⊢
  rw [← hb] at cj ⊢
  obtain ⟨n, hn⟩ : ∃ n, n = l.length := ⟨_, rfl⟩
  rw [← hn] at hi hj ⊢
  have hi2 : (i : Int) < (n : Int) := by omega
  have hj2 : (j : Int) < (n : Int) := by omega
  have hd : decide ((a : Int) < (b : Int)) = decide (a < b) := by simp
  clear x ha hb hn
  go_enter Tryz.func245, Tryz.ntmps245
  go_wp2
  go_region
  go_wp2
  go_ret
  exact ⟨by simp, (Kp.refl _ _).drew⟩

set_option maxRecDepth 100000 in
set_option maxHeartbeats 3200000 in
theorem iswap {w : World} {h o g cap : Nat} {pre post : List Value} {l : List Nat} (x : Ip w h o g cap pre post l) (i j : Nat) (hi : i < l.length) (hj : j < l.length) :
    Calls Tryz.prog 246 #[.slice (some ⟨g, 0, none⟩) l.length cap, .int .i64 i, .int .i64 j] w fun e w' => e = .returned (.tuple #[]) ∧ Kp (fun b => b = g) w w' ∧ Ip w' h o g cap pre post (swI l i j) := by
  have ci := x.cn hi
  have cj := x.cn hj
  obtain ⟨ai, hai⟩ : ∃ a, a = l.getD i 0 := ⟨_, rfl⟩
  obtain ⟨aj, haj⟩ : ∃ a, a = l.getD j 0 := ⟨_, rfl⟩
  rw [← hai] at ci
  rw [← haj] at cj
  have fz : ∀ k, w.frozen? ⟨g, k, none⟩ = false := fun k => own_frzI x.ow k
  obtain ⟨n, hn⟩ : ∃ n, n = l.length := ⟨_, rfl⟩
  obtain ⟨wf, hwf⟩ : ∃ y, y = (w.setCell ⟨g, i, none⟩ (.int .i64 (aj : Int))).setCell ⟨g, j, none⟩ (.int .i64 (ai : Int)) := ⟨_, rfl⟩
  have hK : Kp (fun b => b = g) w wf := by rw [hwf]; exact ((Kp.refl (fun b => b = g) w).setCell (fun _ => rfl) _).setCell (fun _ => rfl) _
  have hH : Ip wf h o g cap pre post (swI l i j) := by
    refine ⟨?_, x.ol, ?_, x.ne⟩
    · rw [swI_len]; exact x.lv.keep hK (fun e => x.ne e.symm)
    · have hml := nls_len l
      have o1 := own_setI x.ow i (.int .i64 (aj : Int)) (by rw [hml]; omega)
      have o2 := own_setI o1 j (.int .i64 (ai : Int)) (by rw [List.length_set, hml]; omega)
      rw [← hwf] at o2
      have e2 : nls (swI l i j) = ((nls l).set i (.int .i64 (aj : Int))).set j (.int .i64 (ai : Int)) := by
        unfold swI
        rw [nls_set, nls_set, hai, haj]
      rw [swI_len, e2]
      exact o2
  have HF : Hid (∀ y : World, y = wf.drew → Kp (fun b => b = g) w y ∧ Ip y h o g cap pre post (swI l i j)) := fun y hy => by
    rw [hy]
    exact ⟨hK.drew, hH.keep0 ((Kp.refl _ _).drew)⟩
  have HW : Hid (wf = (w.setCell ⟨g, i, none⟩ (.int .i64 (aj : Int))).setCell ⟨g, j, none⟩ (.int .i64 (ai : Int))) := hwf
  rw [← hn] at hi hj ⊢
  have hi2 : (i : Int) < (n : Int) := by omega
  have hj2 : (j : Int) < (n : Int) := by omega
  by_cases hij : i = j
  · subst hij
    obtain rfl : ai = aj := by rw [hai, haj]
    have e1 : (w.setCell ⟨g, i, none⟩ (.int .i64 (ai : Int))).cell? ⟨g, i, none⟩ = some (.int .i64 (ai : Int)) := World.cell?_setCell_same _ _ _ ci
    clear x hn hai haj hK hH hwf
    go_enter Tryz.func246, Tryz.ntmps246
    go_wp2
    go_region
    go_end0
    exact ⟨rfl, HF.out _ (by rw [HW.out])⟩
  · have n1 : (⟨g, i, none⟩ : Addr) ≠ ⟨g, j, none⟩ := fun e => by injection e with _ e; omega
    have e1 : (w.setCell ⟨g, i, none⟩ (.int .i64 (aj : Int))).cell? ⟨g, j, none⟩ = some (.int .i64 (aj : Int)) := by rw [World.cell?_setCell_other _ _ _ _ n1]; exact cj
    clear x hn hai haj hK hH hwf n1
    go_enter Tryz.func246, Tryz.ntmps246
    go_wp2
    go_region
    go_end0
    exact ⟨rfl, HF.out _ (by rw [HW.out])⟩
end Go.Proofs.YtippipeebkkghaaGreatDoor
