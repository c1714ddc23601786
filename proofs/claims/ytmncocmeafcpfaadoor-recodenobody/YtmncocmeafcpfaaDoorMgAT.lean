/- Texts of this proof, joined: Yi, Yc, Yd, Ye. -/
import Derived.Test.YtmncocmeafcpfaaDoorMgAN
import Derived.Test.YtmncocmeafcpfaaDoorMgAR
import Derived.RegionTactic
import Derived.BigRegion
import Derived.Deep.RegionHeld3
/- slices.Index, slices.Contains of numbers (as in Ho). -/
namespace Go.Proofs.YtmncocmeafcpfaaDoor
set_option linter.unusedVariables false
set_option linter.unusedSimpArgs false
open Go.RowKit Go.Deep

theorem wrapI (k n : Nat) (hk : k ≤ n) (h : n * 8 ≤ 140737488355328) : wrap64 ((k : Int) + 1) = ((k + 1 : Nat) : Int) := by unfold wrap64; omega

set_option maxRecDepth 100000 in
set_option maxHeartbeats 1600000 in
theorem index_ok (Z : Nat → Prop) (p : Option Addr) (c : Nat) (z : Int) (xs : List Int) (w : World) (h : Fl w Z p (xs.map encI)) (hl : Hid (xs.length * 8 ≤ 140737488355328)) :
    Calls Tryd.prog 90 #[.slice p xs.length c, .int .i64 z] w fun e w' => ∃ r : Int, e = .returned (.int .i64 r) ∧ decide (0 ≤ r) = decide (z ∈ xs) ∧ w' = w := by
  obtain ⟨L, hL⟩ : ∃ L, L = xs.length := ⟨_, rfl⟩
  have HL : Hid (L = xs.length) := hL
  rw [← hL]
  have HF : Hid (Fl w Z p (xs.map encI)) := h
  have HK : Hid (L * 8 ≤ 140737488355328) := by rw [hL]; exact hl
  clear h hL hl
  go_enter Tryd.func90, Tryd.ntmps90
  go_wp2
  go_loopg [8] L (fun gk i wr => ∃ k : Nat, k ≤ L ∧ gk = L - k ∧ i = .int .i64 k ∧ wr = w ∧ Hid (z ∉ xs.take k))
  case atStart => exact ⟨0, Nat.zero_le _, rfl, rfl, rfl, by simp [Hid]⟩
  case round =>
    obtain ⟨k, hk, rfl, rfl, hwr, HT⟩ := hrel
    subst hwr
    by_cases hlt : (k : Int) < (L : Int)
    · have hkl : k < xs.length := by have := HL.out; omega
      have hg : (xs.map encI)[k]? = some (encI xs[k]) := by rw [List.getElem?_map, List.getElem?_eq_getElem hkl]; rfl
      obtain ⟨b1, o1, rfl, _, e1⟩ := HF.out k _ hg
      obtain ⟨y, hy⟩ : ∃ y, y = xs[k] := ⟨_, rfl⟩
      rw [← hy] at e1
      have HTk : Hid (xs.take (k + 1) = xs.take k ++ [y] ∧ y ∈ xs) := ⟨by rw [hy, List.take_succ_eq_append_getElem hkl], by rw [hy]; exact List.getElem_mem hkl⟩
      have HW : Hid (wrap64 ((k : Int) + 1) = ((k + 1 : Nat) : Int)) := wrapI k L hk HK.out
      clear hg hy hkl
      by_cases hzy : z = y
      · subst hzy
        go_wp2
        go_ret
        exact ⟨_, rfl, by rw [decide_eq_true HTk.out.2, decide_eq_true (by omega)], rfl⟩
      · go_wp2
        go_roundg (L - (k + 1))
        case rel => exact ⟨k + 1, by omega, rfl, by rw [HW.out], rfl, by show _ ∉ _; rw [HTk.out.1]; simp only [List.mem_append, List.mem_singleton]; exact fun e => e.elim HT.out hzy⟩
        case measure => omega
    · have HA : Hid (z ∉ xs) := by
        have := HT.out
        rw [List.take_of_length_le (by have := HL.out; omega)] at this
        exact this
      go_wp2
      go_ret
      exact ⟨_, rfl, by first | exact ⟨fun h => absurd h (by omega), fun h => absurd h HA.out⟩ | (rw [decide_eq_false HA.out]; rfl), rfl⟩

set_option maxRecDepth 100000 in
set_option maxHeartbeats 800000 in
theorem contains_ok (Z : Nat → Prop) (p : Option Addr) (c : Nat) (z : Int) (xs : List Int) (w : World) (h : Fl w Z p (xs.map encI)) (hl : Hid (xs.length * 8 ≤ 140737488355328)) :
    Calls Tryd.prog 49 #[.slice p xs.length c, .int .i64 z] w fun e w' => e = .returned (.bool (decide (z ∈ xs))) ∧ w' = w := by
  have H : Hid (Calls _ _ _ w _) := index_ok Z p c z xs w h hl
  obtain ⟨L, hL⟩ : ∃ L, L = xs.length := ⟨_, rfl⟩
  obtain ⟨an, han⟩ : ∃ an, an = decide (z ∈ xs) := ⟨_, rfl⟩
  rw [← hL, ← han] at H
  rw [← hL, ← han]
  clear h hl hL han
  go_enter Tryd.func49, Tryd.ntmps49
  go_wp2_with (go_at_call 90; refine H.out.mono ?_; rintro e u4 ⟨r, rfl, hr, hw⟩; obtain rfl := hw; subst hr)
  go_ret
  exact ⟨rfl, rfl⟩

end Go.Proofs.YtmncocmeafcpfaaDoor

/- Movers: New of one whose blob has one shard; Phase, made, Skip, Stored, Move. -/
namespace Go.Proofs.YtmncocmeafcpfaaDoor
set_option linter.unusedVariables false
set_option linter.unusedSimpArgs false
open Go.RowKit Go.Deep

/-- what a mover has: its phase, its move (blob, index, node), the old holder, the fetch, the shard, the fence -/
abbrev movA (p bl ix nd old : Int) (fp sv : Value) (fe : Int) : List Value := [.int .i64 p, .int .i64 bl, .int .i64 ix, .int .i64 nd, .int .i64 old, fp, sv, .int .i64 fe]
/-- the blocks of a new mover, its fetch and its list -/
structure Mn (w : World) (base m f q oq cq g : Nat) : Prop where
  lm : Lv w m (movA 1 9 0 0 3 (.pointer (some ⟨f, 0, none⟩)) (.slice none 0 0) 0)
  lf : Lv w f (fetA b95 (.slice (some ⟨q, oq, none⟩) 1 cq) (.slice (some ⟨g, 0, none⟩) 1 1) 0)
  lg : Lv w g [.slice none 0 0]
  lq : w.cell? ⟨q, oq, none⟩ = some (.int .i64 3)
  fresh : base ≤ m ∧ base ≤ f ∧ base ≤ g ∧ base ≤ q
  apart : m ≠ f ∧ m ≠ g ∧ m ≠ q ∧ f ≠ g ∧ f ≠ q ∧ q ≠ g

set_option maxRecDepth 100000 in
set_option maxHeartbeats 1600000 in
theorem new10 (b o c : Nat) (w : World) (h3 : w.cell? ⟨b, o, none⟩ = some (.int .i64 3)) (hc : 1 ≤ c) : Calls Tryd.prog 14 #[.int .i64 0, .agg (blobA b95 (.slice (some ⟨b, o, none⟩) 1 c)), .int .i64 0] w fun e w' => ∃ m f q oq cq g, e = .returned (.tuple #[.pointer (some ⟨m, 0, none⟩), .int .i64 0]) ∧ Kp (fun _ => False) w w' ∧ Mn w' w.heap.size m f q oq cq g := by
  have H1 : Hid (∀ z, Kp (fun _ => False) w z → Calls Tryd.prog 47 #[.agg (blobA b95 (.slice (some ⟨b, o, none⟩) 1 c))] z _) := fun z k => newFetch10 b o c z (k.cellv h3 id) hc
  have H2 : Hid (∀ z, Calls Tryd.prog 48 #[.int .i64 0] z _) := fun z => isNode_ok 0 z
  have H4 : Hid (∀ z, Kp (fun _ => False) w z → Calls Tryd.prog 49 #[.slice (some ⟨b, o, none⟩) 1 c, .int .i64 0] z fun e w' => e = .returned (.bool false) ∧ w' = z) := fun z k => by
    have hf : Fl z (fun _ => True) (some ⟨b, o, none⟩) ([(3 : Int)].map encI) := fun j u hu => by
      match j with
      | 0 => simp at hu; subst hu; exact ⟨b, o, rfl, trivial, k.cellv h3 id⟩
      | j + 1 => simp at hu
    refine (contains_ok _ _ c 0 [3] z hf (by show _ ≤ _; decide)).mono ?_
    rintro e w' ⟨rfl, rfl⟩
    exact ⟨by simp, rfl⟩
  have hl : Lv (w.alloc (.cells (blobA b95 (.slice (some ⟨b, o, none⟩) 1 c)) 33)) w.heap.size (blobA b95 (.slice (some ⟨b, o, none⟩) 1 c)).toList := Lv.new w _ _
  have k0 : Kp (fun _ => False) w (w.alloc (.cells (blobA b95 (.slice (some ⟨b, o, none⟩) 1 c)) 33)) := (Kp.refl _ _).alloc _
  have c0 := hl.cell (j := 0) rfl
  have c1 := hl.cell (j := 1) rfl
  have c2 := hl.cell (j := 2) rfl
  have c3 := hl.cell (j := 3) rfl
  have c4 := hl.cell (j := 4) rfl
  have c5 := hl.cell (j := 5) rfl
  clear hl
  go_enter Tryd.func14, Tryd.ntmps14
  go_wp2_with (go_at_call 47; refine (H1.out _ k0).mono ?_; rintro e w1 ⟨f, q, oq, cq, g, rfl, k1, hf, hq, hg, hfg, hfq, hqg, lf, lg, cq3⟩)
  have HLf : Hid (Lv w1 f (fetA b95 (.slice (some ⟨q, oq, none⟩) 1 cq) (.slice (some ⟨g, 0, none⟩) 1 1) 0) ∧ Lv w1 g [.slice none 0 0] ∧ w1.cell? ⟨q, oq, none⟩ = some (.int .i64 3)) := ⟨lf, lg, cq3⟩
  have k01 := k0.trans k1 (fun _ _ e => e)
  have HKW : Hid (Kp (fun _ => False) w w1) := k01
  have HB : Hid (f < w1.heap.size ∧ g < w1.heap.size ∧ q < w1.heap.size ∧ w.heap.size ≤ f ∧ w.heap.size ≤ q ∧ w.heap.size ≤ g ∧ f ≠ g ∧ f ≠ q ∧ q ≠ g) := by
    have s0 := k0.size
    exact ⟨lf.lt (by simp), lg.lt (by simp), World.block_lt_of_cell? _ _ cq3, by omega, by omega, by omega, hfg, hfq, hqg⟩
  have d0 := k1.cellv c0 id
  have d5 := k1.cellv c5 id
  have d3 := k01.cellv h3 id
  clear lf lg cq3 c0 c1 c2 c3 c4 c5
  go_wp2_with (first
    | (go_at_call 48; refine (H2.out _).mono ?_; rintro e w2 ⟨rfl, rfl⟩)
    | (go_at_call 49; refine (H4.out _ HKW.out).mono ?_; rintro e w2 ⟨rfl, rfl⟩))
  go_region
  go_wp2
  go_ret2
  have hb := HB.out
  have hl := HLf.out
  have kz : Kp (fun _ => False) w2 (w2.drew.alloc (.cells (movA 1 9 0 0 3 (.pointer (some ⟨f, 0, none⟩)) (.slice none 0 0) 0).toArray 60)) := (Kp.refl _ _).drew.alloc _
  refine ⟨w2.heap.size, f, q, oq, cq, g, rfl, HKW.out.trans kz (fun _ _ e => e), ⟨?_, hl.1.keep kz id, hl.2.1.keep kz id, kz.cellv hl.2.2 id, by have := HKW.out.size; omega, by omega⟩⟩
  exact Lv.new w2.drew _ _
end Go.Proofs.YtmncocmeafcpfaaDoor

/- Movers: Phase, made, Skip, Stored, Shard; On and Asks of one whose shard is durable. -/
namespace Go.Proofs.YtmncocmeafcpfaaDoor
set_option linter.unusedVariables false
set_option linter.unusedSimpArgs false
open Go.RowKit Go.Deep

set_option maxRecDepth 100000 in
set_option maxHeartbeats 800000 in
theorem mphase_ok (m : Nat) (p : Int) (w : World) (h : w.cell? ⟨m, 0, none⟩ = some (.int .i64 p)) : Calls Tryd.prog 15 #[.pointer (some ⟨m, 0, none⟩)] w fun e w' => e = .returned (.int .i64 p) ∧ w' = w := by
  go_enter Tryd.func15, Tryd.ntmps15
  go_wp2
  go_ret
  exact ⟨rfl, rfl⟩

set_option maxRecDepth 100000 in
set_option maxHeartbeats 800000 in
theorem mmade_ok (m : Nat) (p : Int) (w : World) (h : w.cell? ⟨m, 0, none⟩ = some (.int .i64 p)) (hp : p ≠ 0) : Calls Tryd.prog 52 #[.pointer (some ⟨m, 0, none⟩)] w fun e w' => e = .returned (.bool true) ∧ w' = w := by
  have H : Hid (Calls _ _ _ w _) := mphase_ok m p w h
  clear h
  go_enter Tryd.func52, Tryd.ntmps52
  go_wp2_with (go_at_call 15; refine H.out.mono ?_; rintro e w1 ⟨rfl, rfl⟩)
  go_ret
  exact ⟨by simp [hp], rfl⟩

section
variable {w : World} {m : Nat} {p bl ix nd old : Int} {fp sv : Value} {fe : Int}

set_option maxRecDepth 100000 in
set_option maxHeartbeats 800000 in
theorem mskip_no (h : Lv w m (movA p bl ix nd old fp sv fe)) (h0 : p ≠ 0) (h3 : p ≠ 3) : Calls Tryd.prog 21 #[.pointer (some ⟨m, 0, none⟩)] w fun e w' => e = .returned (.int .i64 1) ∧ w' = w := by
  have c0 := h.cell (j := 0) rfl
  have H : Hid (Calls _ _ _ w _) := mmade_ok m p w c0 h0
  clear h h0
  go_enter Tryd.func21, Tryd.ntmps21
  go_wp2_with (go_at_call 52; refine H.out.mono ?_; rintro e w1 ⟨rfl, rfl⟩)
  go_ret
  exact ⟨rfl, rfl⟩

set_option maxRecDepth 100000 in
set_option maxHeartbeats 800000 in
theorem mskip_ok (h : Lv w m (movA 3 bl ix nd old fp sv fe)) : Calls Tryd.prog 21 #[.pointer (some ⟨m, 0, none⟩)] w fun e w' => e = .returned (.int .i64 0) ∧ Kp (fun b => b = m) w w' ∧ Lv w' m (movA 4 bl ix nd old fp sv fe) := by
  have c0 := h.cell (j := 0) rfl
  have f0 := h.fz (j := 0) (by simp)
  have H : Hid (Calls _ _ _ w _) := mmade_ok m 3 w c0 (by decide)
  have HF : Hid (Lv (w.setCell ⟨m, 0, none⟩ (.int .i64 4)) m (movA 4 bl ix nd old fp sv fe)) := h.set1 0 _ (by simp)
  clear h
  go_enter Tryd.func21, Tryd.ntmps21
  go_wp2_with (go_at_call 52; refine H.out.mono ?_; rintro e w1 ⟨rfl, rfl⟩)
  go_ret
  exact ⟨rfl, (Kp.refl (fun b => b = m) _).setCell (fun _ => rfl) _, HF.out⟩

set_option maxRecDepth 100000 in
set_option maxHeartbeats 800000 in
theorem mstored_ok (ep : Int) (h : Lv w m (movA 2 bl ix nd old fp sv fe)) (he : 0 ≤ ep) (he2 : ep < 1000) : Calls Tryd.prog 22 #[.pointer (some ⟨m, 0, none⟩), .int .i64 ep] w fun e w' => e = .returned (.int .i64 0) ∧ Kp (fun b => b = m) w w' ∧ Lv w' m (movA 3 bl ix nd old fp sv (ep + 1)) := by
  have c0 := h.cell (j := 0) rfl
  have f0 := h.fz (j := 0) (by simp)
  have c7 := h.cell (j := 7) rfl
  have f7 := h.fz (j := 7) (by simp)
  have H : Hid (Calls _ _ _ w _) := mmade_ok m 2 w c0 (by decide)
  have hw : wrap64 (ep + 1) = ep + 1 := by unfold wrap64; omega
  have h1 : Lv (w.setCell ⟨m, 0, none⟩ (.int .i64 3)) m (movA 3 bl ix nd old fp sv fe) := h.set1 0 _ (by simp)
  have c7a := h1.cell (j := 7) rfl
  have f7a := h1.fz (j := 7) (by simp)
  have HF : Hid (Lv ((w.setCell ⟨m, 0, none⟩ (.int .i64 3)).setCell ⟨m, 7, none⟩ (.int .i64 (ep + 1))) m (movA 3 bl ix nd old fp sv (ep + 1))) := h1.set1 7 _ (by simp)
  clear h h1
  go_enter Tryd.func22, Tryd.ntmps22
  go_wp2_with (go_at_call 52; refine H.out.mono ?_; rintro e w1 ⟨rfl, rfl⟩)
  go_ret
  exact ⟨rfl, ((Kp.refl (fun b => b = m) _).setCell (fun _ => rfl) _).setCell (fun _ => rfl) _, HF.out⟩

set_option maxRecDepth 100000 in
set_option maxHeartbeats 800000 in
theorem mshard_ok (pb : Option Addr) (n c : Nat) (xs : List Nat) (h : Lv w m (movA p bl ix nd old fp (.slice pb n c) fe)) (h0 : p ≠ 0) (hb : Rb w pb n xs) (hn : Hid (n ≤ 140737488355328)) : Calls Tryd.prog 19 #[.pointer (some ⟨m, 0, none⟩)] w fun e w' => ∃ v, e = .returned v ∧ Kp (fun _ => False) w w' ∧ Ow w' w.heap.size v xs := by
  have c0 := h.cell (j := 0) rfl
  have c6 := h.cell (j := 6) rfl
  have H : Hid (Calls _ _ _ w _) := mmade_ok m p w c0 h0
  have HC : Hid (Calls _ _ _ w _) := clone_any pb n c xs w hb hn
  clear h h0 hb hn
  go_enter Tryd.func19, Tryd.ntmps19
  go_wp2_with (first | (go_at_call 52; refine H.out.mono ?_; rintro e w1 ⟨rfl, rfl⟩) | (go_at_call 17; refine HC.out.mono ?_; rintro e w2 ⟨v, rfl, k2, o2⟩))
  go_ret
  exact ⟨v, rfl, k2, o2⟩
end
end Go.Proofs.YtmncocmeafcpfaaDoor

/- Movers: On and Asks of one whose shard is durable. -/
namespace Go.Proofs.YtmncocmeafcpfaaDoor
set_option linter.unusedVariables false
set_option linter.unusedSimpArgs false
open Go.RowKit Go.Deep

/-- a message of which most is nought -/
abbrev msgF (kind src blob index : Int) (ok : Bool) (bv : Value) : Array Value := #[.int .i64 kind, .int .i64 src, .int .i64 0, .int .i64 0, .int .i64 0, .int .i64 blob, .int .i64 index, .int .i64 0, .int .i64 0, .bool ok,
  .int .i64 0, .int .i64 0, .string ⟨#[]⟩, .int .i64 0, .int .i64 0, .int .i64 0, .int .i64 0, .int .i64 0, .int .u32 0, .int .i64 0, .int .i64 0, .slice none 0 0, .slice none 0 0, bv]

section
variable {w : World} {m : Nat} {fp sv : Value} {fe : Int}

set_option maxRecDepth 100000 in
set_option maxHeartbeats 1600000 in
theorem mfenced_not (h : Lv w m (movA 3 9 0 0 3 fp sv fe)) : Calls Tryd.prog 51 #[.pointer (some ⟨m, 0, none⟩), .agg (msgF 15 3 9 0 false (.slice none 0 0))] w fun e w' => e = .returned (.bool false) ∧ Kp (fun _ => False) w w' := by
  have hl : Lv (w.alloc (.cells (msgF 15 3 9 0 false (.slice none 0 0)) 45)) w.heap.size (msgF 15 3 9 0 false (.slice none 0 0)).toList := Lv.new w _ _
  have k0 : Kp (fun _ => False) w (w.alloc (.cells (msgF 15 3 9 0 false (.slice none 0 0)) 45)) := (Kp.refl _ _).alloc _
  have h' := h.keep k0 id
  have m1 := h'.cell (j := 1) rfl
  have m2 := h'.cell (j := 2) rfl
  have m4 := h'.cell (j := 4) rfl
  have x0 := hl.cell (j := 0) rfl
  have x1 := hl.cell (j := 1) rfl
  have x5 := hl.cell (j := 5) rfl
  have x6 := hl.cell (j := 6) rfl
  have x9 := hl.cell (j := 9) rfl
  clear h h' hl
  go_enter Tryd.func51, Tryd.ntmps51
  go_wp2
  go_quiet (fail)
  go_wp2
  go_ret
  exact ⟨rfl, k0.drewN _⟩

set_option maxRecDepth 100000 in
set_option maxHeartbeats 1600000 in
theorem mfenced_other (h : Lv w m (movA 3 9 0 0 3 fp sv fe)) : Calls Tryd.prog 51 #[.pointer (some ⟨m, 0, none⟩), .agg (msgF 15 2 9 0 true (.slice none 0 0))] w fun e w' => e = .returned (.bool false) ∧ Kp (fun _ => False) w w' := by
  have hl : Lv (w.alloc (.cells (msgF 15 2 9 0 true (.slice none 0 0)) 45)) w.heap.size (msgF 15 2 9 0 true (.slice none 0 0)).toList := Lv.new w _ _
  have k0 : Kp (fun _ => False) w (w.alloc (.cells (msgF 15 2 9 0 true (.slice none 0 0)) 45)) := (Kp.refl _ _).alloc _
  have h' := h.keep k0 id
  have m1 := h'.cell (j := 1) rfl
  have m2 := h'.cell (j := 2) rfl
  have m4 := h'.cell (j := 4) rfl
  have x0 := hl.cell (j := 0) rfl
  have x1 := hl.cell (j := 1) rfl
  have x5 := hl.cell (j := 5) rfl
  have x6 := hl.cell (j := 6) rfl
  have x9 := hl.cell (j := 9) rfl
  clear h h' hl
  go_enter Tryd.func51, Tryd.ntmps51
  go_wp2
  go_quiet (fail)
  go_wp2
  go_ret
  exact ⟨rfl, k0.drewN _⟩

set_option maxRecDepth 100000 in
set_option maxHeartbeats 1600000 in
theorem mfenced_ok (h : Lv w m (movA 3 9 0 0 3 fp sv fe)) : Calls Tryd.prog 51 #[.pointer (some ⟨m, 0, none⟩), .agg (msgF 15 3 9 0 true (.slice none 0 0))] w fun e w' => e = .returned (.bool true) ∧ Kp (fun b => b = m) w w' ∧ Lv w' m (movA 4 9 0 0 3 fp sv fe) := by
  have hl : Lv (w.alloc (.cells (msgF 15 3 9 0 true (.slice none 0 0)) 45)) w.heap.size (msgF 15 3 9 0 true (.slice none 0 0)).toList := Lv.new w _ _
  have k0 : Kp (fun _ => False) w (w.alloc (.cells (msgF 15 3 9 0 true (.slice none 0 0)) 45)) := (Kp.refl _ _).alloc _
  have h' := h.keep k0 id
  have m0 := h'.cell (j := 0) rfl
  have m1 := h'.cell (j := 1) rfl
  have m2 := h'.cell (j := 2) rfl
  have m4 := h'.cell (j := 4) rfl
  have f0 := h'.fz (j := 0) (by simp)
  have x0 := hl.cell (j := 0) rfl
  have x1 := hl.cell (j := 1) rfl
  have x5 := hl.cell (j := 5) rfl
  have x6 := hl.cell (j := 6) rfl
  have x9 := hl.cell (j := 9) rfl
  have HL : Hid (Lv (w.alloc (.cells (msgF 15 3 9 0 true (.slice none 0 0)) 45)) m (movA 3 9 0 0 3 fp sv fe)) := h'
  clear h h' hl
  go_enter Tryd.func51, Tryd.ntmps51
  go_wp2
  go_quiet (fail)
  go_wp2
  go_ret
  refine ⟨rfl, Kp.setCell (S := fun b => b = m) ((k0.drewN _).mono (fun _ _ e => e.elim)) (fun _ => rfl) _, ?_⟩
  exact (HL.out.keep ((Kp.refl (fun _ => False) _).drewN _) id).set1 0 _ (by simp)

set_option maxRecDepth 100000 in
set_option maxHeartbeats 1600000 in
theorem mon_not (h : Lv w m (movA 3 9 0 0 3 fp sv fe)) : Calls Tryd.prog 16 #[.pointer (some ⟨m, 0, none⟩), .agg (msgF 15 3 9 0 false (.slice none 0 0))] w fun e w' => e = .returned (.bool false) ∧ Kp (fun _ => False) w w' := by
  have k0 : Kp (fun _ => False) w (w.alloc (.cells (msgF 15 3 9 0 false (.slice none 0 0)) 45)) := (Kp.refl _ _).alloc _
  have h' := h.keep k0 id
  have HX : Hid (Lv (w.alloc (.cells (msgF 15 3 9 0 false (.slice none 0 0)) 45)) w.heap.size (msgF 15 3 9 0 false (.slice none 0 0)).toList) := Lv.new w _ _
  have H1 : Hid (Calls _ _ _ _ _) := mphase_ok m 3 _ (h'.cell (j := 0) rfl)
  have H2 : Hid (Calls _ _ _ _ _) := mfenced_not h'
  clear h h'
  go_enter Tryd.func16, Tryd.ntmps16
  go_wp2_with (first | (refine wpList_load_all rfl 45 _ rfl 24 w.heap.size (msgF 15 3 9 0 false (.slice none 0 0)).toList rfl HX.out dsMsg szMsg rfl ?_) | (go_at_call 15; refine H1.out.mono ?_; rintro e w1 ⟨rfl, hw1⟩; subst hw1) | (go_at_call 51; refine H2.out.mono ?_; rintro e w2 ⟨rfl, k2⟩))
  go_ret
  exact ⟨rfl, k0.trans k2 (fun _ _ e => e)⟩

set_option maxRecDepth 100000 in
set_option maxHeartbeats 1600000 in
theorem mon_other (h : Lv w m (movA 3 9 0 0 3 fp sv fe)) : Calls Tryd.prog 16 #[.pointer (some ⟨m, 0, none⟩), .agg (msgF 15 2 9 0 true (.slice none 0 0))] w fun e w' => e = .returned (.bool false) ∧ Kp (fun _ => False) w w' := by
  have k0 : Kp (fun _ => False) w (w.alloc (.cells (msgF 15 2 9 0 true (.slice none 0 0)) 45)) := (Kp.refl _ _).alloc _
  have h' := h.keep k0 id
  have HX : Hid (Lv (w.alloc (.cells (msgF 15 2 9 0 true (.slice none 0 0)) 45)) w.heap.size (msgF 15 2 9 0 true (.slice none 0 0)).toList) := Lv.new w _ _
  have H1 : Hid (Calls _ _ _ _ _) := mphase_ok m 3 _ (h'.cell (j := 0) rfl)
  have H2 : Hid (Calls _ _ _ _ _) := mfenced_other h'
  clear h h'
  go_enter Tryd.func16, Tryd.ntmps16
  go_wp2_with (first | (refine wpList_load_all rfl 45 _ rfl 24 w.heap.size (msgF 15 2 9 0 true (.slice none 0 0)).toList rfl HX.out dsMsg szMsg rfl ?_) | (go_at_call 15; refine H1.out.mono ?_; rintro e w1 ⟨rfl, hw1⟩; subst hw1) | (go_at_call 51; refine H2.out.mono ?_; rintro e w2 ⟨rfl, k2⟩))
  go_ret
  exact ⟨rfl, k0.trans k2 (fun _ _ e => e)⟩

set_option maxRecDepth 100000 in
set_option maxHeartbeats 1600000 in
theorem mon_fenced (h : Lv w m (movA 3 9 0 0 3 fp sv fe)) : Calls Tryd.prog 16 #[.pointer (some ⟨m, 0, none⟩), .agg (msgF 15 3 9 0 true (.slice none 0 0))] w fun e w' => e = .returned (.bool true) ∧ Kp (fun b => b = m) w w' ∧ Lv w' m (movA 4 9 0 0 3 fp sv fe) := by
  have k0 : Kp (fun _ => False) w (w.alloc (.cells (msgF 15 3 9 0 true (.slice none 0 0)) 45)) := (Kp.refl _ _).alloc _
  have h' := h.keep k0 id
  have HX : Hid (Lv (w.alloc (.cells (msgF 15 3 9 0 true (.slice none 0 0)) 45)) w.heap.size (msgF 15 3 9 0 true (.slice none 0 0)).toList) := Lv.new w _ _
  have H1 : Hid (Calls _ _ _ _ _) := mphase_ok m 3 _ (h'.cell (j := 0) rfl)
  have H2 : Hid (Calls _ _ _ _ _) := mfenced_ok h'
  clear h h'
  go_enter Tryd.func16, Tryd.ntmps16
  go_wp2_with (first | (refine wpList_load_all rfl 45 _ rfl 24 w.heap.size (msgF 15 3 9 0 true (.slice none 0 0)).toList rfl HX.out dsMsg szMsg rfl ?_) | (go_at_call 15; refine H1.out.mono ?_; rintro e w1 ⟨rfl, hw1⟩; subst hw1) | (go_at_call 51; refine H2.out.mono ?_; rintro e w2 ⟨rfl, k2, l2⟩))
  go_ret
  exact ⟨rfl, (k0.mono (fun _ _ e => e.elim)).trans k2 (fun _ _ e => e), l2⟩

set_option maxRecDepth 100000 in
set_option maxHeartbeats 800000 in
theorem masks_done (ep : Int) (h : Lv w m (movA 4 9 0 0 3 fp sv fe)) : Calls Tryd.prog 24 #[.pointer (some ⟨m, 0, none⟩), .int .i64 ep] w fun e w' => e = .returned (.slice none 0 0) ∧ w' = w := by
  have H1 : Hid (Calls _ _ _ _ _) := mphase_ok m 4 w (h.cell (j := 0) rfl)
  clear h
  go_enter Tryd.func24, Tryd.ntmps24
  go_wp2_with (go_at_call 15; refine H1.out.mono ?_; rintro e w1 ⟨rfl, hw1⟩; subst hw1)
  go_ret
  exact ⟨rfl, rfl⟩
end
end Go.Proofs.YtmncocmeafcpfaaDoor
