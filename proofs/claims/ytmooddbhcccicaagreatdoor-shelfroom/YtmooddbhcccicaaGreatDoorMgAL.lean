/- Texts of this proof, joined: At, Au, Av. -/
import Derived.Test.YtmooddbhcccicaaGreatDoorMgAK
import Derived.RangeFuncBox
import Derived.RangeFuncLeaves
import Derived.Shelf.SlIterI.Sorted
import Derived.OwnWalkIn
import Derived.TacticsInMore
import Derived.LoopNIn
import Derived.LoopIn
import Derived.Lib.SmallJoins
import Derived.BigRegion
/- Open of a new plate. -/
namespace Go.Proofs.YtmooddbhcccicaaGreatDoor
set_option linter.unusedVariables false
set_option linter.unusedSimpArgs false
open Go.RowKit Go.Deep

/-- the log at block g, whose free places e, e + 1 .. (k of them) stand at block gf -/
structure Wl (w : World) (g bp s gf : Nat) (A : H4) (last : Int) (e k : Nat) : Prop where
  hp : ∃ cap l, Lv w g (walC bp s A (.slice (some ⟨gf, 0, none⟩) k cap) last) ∧ w.ownsRow 0 3 1 (.slice (some ⟨gf, 0, none⟩) k cap) k (nls l) ∧ Free l e k
  ne : gf ≠ g
theorem Wl.keep {S : Nat → Prop} {w w' : World} {g bp s gf : Nat} {A : H4} {last : Int} {e k : Nat} (h : Wl w g bp s gf A last e k) (kp : Kp S w w') (hg : ¬ S g) (hf : ¬ S gf) : Wl w' g bp s gf A last e k := by
  obtain ⟨cap, l, h1, h2, h3⟩ := h.hp
  exact ⟨⟨cap, l, h1.keep kp hg, ownsRow_keep h2 kp (fun g' e' => by have e2 : some gf = some g' := e'; injection e2 with e2; subst e2; exact hf), h3⟩, h.ne⟩
theorem Wl.gl {w : World} {g bp s gf : Nat} {A : H4} {last : Int} {e k : Nat} (h : Wl w g bp s gf A last e k) : g < w.heap.size := by
  obtain ⟨cap, l, h1, h2, h3⟩ := h.hp
  exact h1.lt (by simp)
theorem Wl.fl {w : World} {g bp s gf : Nat} {A : H4} {last : Int} {e k : Nat} (h : Wl w g bp s gf A last e k) : gf < w.heap.size := by
  obtain ⟨cap, l, h1, h2, h3⟩ := h.hp
  exact (ownBlock_lt h2 (g := gf) rfl).2

set_option maxRecDepth 100000 in
set_option maxHeartbeats 1600000 in
theorem OpenNew_ok {w : World} {bp d m n q s : Nat} {dur : List Nat} {T : Nat → Option (List Nat)} (h : Pt w bp d m n q dur T) (hq : (q : Int) < 9223372036854775807) (hs : n = 2 + s) (h6 : 6 ≤ n) (hall : ∀ i, i < n → nowOf dur T i = nouW 64) (ht : Turns w) :
    Calls Tryz.prog 55 #[.pointer (some ⟨bp, 0, none⟩)] w fun e9 w' => ∃ g gf, e9 = .returned (.tuple #[.pointer (some ⟨g, 0, none⟩), .slice none 0 0, .int .i64 0]) ∧ Kp (fun x => x = d ∨ x = m) w w' ∧ Pt w' bp d m n 0 (wrHead dur T n 1 (hdB 1 1 0 1)) (fun _ => none) ∧ w.heap.size ≤ g ∧ w.heap.size ≤ gf ∧ Wl w' g bp s gf ⟨1, 1, 0, 1⟩ 0 0 s := by
  have HU : Hid (Calls _ _ _ w _) := unfit_ok h h6
  have HS : Hid (Calls _ _ _ w _) := sectors_ok h
  obtain ⟨g, hg⟩ : ∃ g, g = w.heap.size := ⟨_, rfl⟩
  obtain ⟨w0, hw0⟩ : ∃ y, y = w.alloc (.cells #[.pointer (some ⟨bp, 0, none⟩), .int .i64 (s : Int), .int .i64 0, .int .i64 0, .int .i64 0, .int .i64 0, .slice none 0 0, .int .i64 0] 158) := ⟨_, rfl⟩
  have HK0 : Hid (Kp (fun _ => False) w w0) := by rw [hw0]; exact (Kp.refl _ _).alloc _
  have HL0 : Lv w0 g (walC bp s ⟨0, 0, 0, 0⟩ (.slice none 0 0) 0) := by rw [hw0, hg]; exact Lv.new _ _ _
  have h1 := h.lt
  have h2 := h.row.lt
  have h3 := h.mp.lt
  have h4 := World.block_lt_of_cell? _ _ (ht 0 (by decide))
  have h4' : (0 : Nat) < w.heap.size := h4
  have HO : Hid (Calls Tryz.prog 101 #[.pointer (some ⟨g, 0, none⟩)] w0 _) := openNew_ok (h.keep0 HK0.out) hq hs hall _ _ 0 HL0 (by omega) (by omega) (by omega) (by omega) (fun j hj => HK0.out.cellv (ht j hj) id)
  have HG : Hid (g = w.heap.size ∧ d < w.heap.size ∧ m < w.heap.size ∧ w0.heap.size = w.heap.size + 1) := ⟨hg, h2, h3, by rw [hw0]; simp⟩
  have hwn : wrap64 ((n : Int) - 2) = (s : Int) := by have := h.n2; unfold wrap64; omega
  have hnn := nil_neq
  clear h ht hall hq hs h6 HL0 h1 h2 h3 h4 h4'
  go_enter Tryz.func55, Tryz.ntmps55
  go_wp2_with fail
  refine HU.out.mono ?_
  rintro e9 w9 ⟨rfl, hw9⟩
  have hw8 := hw9.symm
  subst hw8
  clear hw9 HU
  go_wp2_with fail
  refine HS.out.mono ?_
  rintro e9 w9 ⟨rfl, hw9⟩
  have hw8 := hw9.symm
  subst hw8
  clear hw9 HS
  go_wp2_with fail
  rw [← hw0, ← hg]
  clear hw0 hg
  refine HO.out.mono ?_
  rintro e9 w1 ⟨rfl, k1, p1, gf, cap, l, hgf, l1, o1, f1⟩
  have HF : Hid (Kp (fun x => x = d ∨ x = m) w w1 ∧ Pt w1 bp d m n 0 (wrHead dur T n 1 (hdB 1 1 0 1)) (fun _ => none) ∧ w.heap.size ≤ g ∧ w.heap.size ≤ gf ∧ Wl w1 g bp s gf ⟨1, 1, 0, 1⟩ 0 0 s) :=
    ⟨(HK0.out.mono (fun _ _ e => e.elim)).trans k1 (fun b hb e => by have := HG.out; omega), p1, by have := HG.out; omega, by have := HG.out; omega, ⟨⟨cap, l, l1, o1, f1⟩, by have := HG.out; omega⟩⟩
  clear k1 p1 hgf l1 o1 f1 HO
  go_wp2
  go_ret3
  exact ⟨g, gf, rfl, HF.out⟩
end Go.Proofs.YtmooddbhcccicaaGreatDoor

/- slices.Chunk of a record: the iterator. -/
namespace Go.Proofs.YtmooddbhcccicaaGreatDoor
set_option linter.unusedVariables false
set_option linter.unusedSimpArgs false
open Go.RowKit Go.Deep Go.Maps Go.Shelf

theorem slice3W (g o n c l r : Nat) (hl : l < r) (hr : r ≤ c) (w : World) :
    (Instr.slice 34 (.slice (some ⟨g, o, none⟩) n c) (some (.int .i64 (l : Int))) (some (.int .i64 (r : Int))) (some (.int .i64 (r : Int)))).run Tryz.prog w = .ok (.slice (some ⟨g, o + l, none⟩) (r - l) (r - l)) w := by
  obtain ⟨i, hi, hz⟩ := Option.map_eq_some_iff.1 info5
  simp only [Prod.mk.injEq] at hz
  obtain ⟨hz, hs, hb⟩ := hz
  have h2 : (0 : Int) ≤ r ∧ (r : Int) ≤ (c : Int) := by omega
  have h3 : ¬ r = l := by omega
  have h4 : l ≤ r := by omega
  simp [Instr.slice, Instr.sliceBounds, Instr.sliceBound, asIntOf, run_underlying Tryz.underlying34, sizeOf, typeInfo, hi, hs, hr, h3, h4, Addr.add]
/-- how many bytes the j-th piece of n has -/
def chL (n j : Nat) : Nat := min 40 (n - 40 * j)
def chV (b o n j : Nat) : Value := .slice (some ⟨b, o + 40 * j, none⟩) (chL n j) (chL n j)
theorem wr_add {i e r : Nat} (h : r = i + e) (hb : r ≤ 100000) : wrap64 ((i : Int) + (e : Int)) = (r : Int) ∧ IntKind.i64.wrap ((i : Int) + (e : Int)) = (r : Int) := by
  refine ⟨by unfold wrap64; omega, by rw [IntKind.wrap_i64]; omega⟩
theorem wr_40 {i k : Nat} (h : i = 40 * k) (hb : i ≤ 100000) : wrap64 ((i : Int) + 40) = ((40 * (k + 1) : Nat) : Int) := by unfold wrap64; omega
theorem min_chunk {e m : Nat} (h : e = min 40 m) : min (40 : Int) (m : Int) = (e : Int) := by omega
def vnumW : Value → Int
  | .int _ z => z
  | _ => 0

set_option maxRecDepth 100000 in
set_option maxHeartbeats 2000000 in
/-- the iterator over a record's parts, for each loop whose body keeps what lies outside S -/
theorem chunk1 (F : Fence) (n : Nat) (h7 : F.fn 226) (hro : F.round = none) (hn : 1 ≤ n) (l Bs Bn len cap b o : Nat) (K : Nat) (S : Nat → Prop) (hK : Hid (K = (len + 39) / 40 ∧ len ≤ 2000 ∧ len ≤ cap)) (J Jx : List Nat → World → Prop) (Bj : Nat) (hJ : AbidesFrom Bj J)
    (hY : ∀ pre x W, J pre W → pre.length < K → YieldAt F (n - 1) Tryz.prog l #[chV b o len x] W fun e W' =>
      (e = .returned (.bool true) ∧ J (pre ++ [x]) W' ∧ Kp S W W') ∨ (e = .returned (.bool false) ∧ Jx (pre ++ [x]) W'))
    (W : World) (hBs : W.cell? ⟨Bs, 0, none⟩ = some (.slice (some ⟨b, o, none⟩) len cap)) (hBn : W.cell? ⟨Bn, 0, none⟩ = some (.int .i64 40)) (hlt : ¬ S Bs ∧ ¬ S Bn) (h0 : J [] W) :
    CallsIn F n Tryz.prog 226 #[.func (.yield l) #[] #[], .pointer (some ⟨Bs, 0, none⟩), .pointer (some ⟨Bn, 0, none⟩)] W fun e W' => (∃ v, e = .returned v) ∧ ((∃ ys, ys = List.range K ∧ J ys W') ∨ (∃ pre : List Nat, True ∧ Jx pre W')) := by
  refine callsIn_of_wp Tryz.func226 rfl h7 ?_ hro
  simp only [Tryz.ntmps226, List.size_toArray, List.length_cons, List.length_nil, Nat.reduceAdd, Nat.reduceSub, Array.replicate_succ, Array.replicate_zero, List.push_toArray, List.append_toArray, List.nil_append, List.cons_append]
  gi_wp2
  gi_loopw [4] (fun i wr => ∃ k : Nat, k ≤ K ∧ i = .int .i64 ((40 * k : Nat) : Int) ∧ J (List.range k) wr ∧ Kp S W wr)
    (fun i _ => 2040 - (vnumW i).toNat)
  case atStart => exact ⟨0, Nat.zero_le _, rfl, by simpa using h0, Kp.refl _ _⟩
  case round =>
    obtain ⟨k, hk, rfl, hJs, hnx⟩ := hrel
    have cs : wr.cell? ⟨Bs, 0, none⟩ = some (.slice (some ⟨b, o, none⟩) len cap) := hnx.cellv hBs hlt.1
    have cn : wr.cell? ⟨Bn, 0, none⟩ = some (.int .i64 40) := hnx.cellv hBn hlt.2
    obtain ⟨i, hi⟩ : ∃ i, i = 40 * k := ⟨_, rfl⟩
    rw [← hi]
    by_cases hlt3 : k < K
    · have hlt2 : (i : Int) < (len : Int) := by have := hK.out; omega
      have HKk := hK.out
      obtain ⟨m, hm⟩ : ∃ m, m = len - i := ⟨_, rfl⟩
      obtain ⟨c9, hc9⟩ : ∃ c9, c9 = cap - i := ⟨_, rfl⟩
      have hsl : ∀ w, (Instr.slice 34 (.slice (some ⟨b, o, none⟩) len cap) (some (.int .i64 (i : Int))) none none).run Tryz.prog w = .ok (.slice (some ⟨b, o + i, none⟩) m c9) w := fun w => by
        rw [hm, hc9]
        exact sliceL b o len cap i (by omega) (by omega) w
      obtain ⟨e, he⟩ : ∃ e, e = chL len k := ⟨_, rfl⟩
      have hee : e = min 40 m := by rw [he, hm, hi]; rfl
      obtain ⟨r, hr⟩ : ∃ r, r = i + e := ⟨_, rfl⟩
      have hs3 : ∀ w, (Instr.slice 34 (.slice (some ⟨b, o, none⟩) len cap) (some (.int .i64 (i : Int))) (some (.int .i64 (r : Int))) (some (.int .i64 (r : Int)))).run Tryz.prog w = .ok (chV b o len k) w := fun w => by
        have := slice3W b o len cap i r (by omega) (by omega) w
        rw [this]
        unfold chV
        rw [← he, hi, show r - 40 * k = e by omega]
      have hJd : J (List.range k) wr.drew := hJ _ _ _ none hJs ⟨rfl, rfl, rfl, Nat.le_refl _, fun _ _ _ => rfl⟩ (fun r e => by cases e)
      have hnd : Kp S W wr.drew := hnx.drew
      have hYk := hY _ k wr.drew hJd (by rw [List.length_range]; exact hlt3)
      have HNx : Hid (wrap64 ((i : Int) + 40) = ((40 * (k + 1) : Nat) : Int) ∧ i < 2000 ∧ i = 40 * k) := ⟨wr_40 hi (by omega), by omega, hi⟩
      have HT : Hid (List.range (k + 1) = List.range k ++ [k]) := List.range_succ
      obtain ⟨cv, hcv⟩ : ∃ cv, cv = chV b o len k := ⟨_, rfl⟩
      rw [← hcv] at hs3 hYk
      have hmin := min_chunk hee
      obtain ⟨hwr, hwr2⟩ := wr_add hr (by omega)
      clear hm hc9 he hee hr hi HKk hcv hY
      obtain ⟨fn, tmps, assign, body, hy, hR⟩ := hYk
      gi_wp2
      gi_region
      all_goals
        gi_wp2
        refine hR.mono ?_
        rintro e9 W3 (⟨rfl, hJ3, hk3⟩ | ⟨rfl, hJx3⟩)
        · have cn3 : W3.cell? ⟨Bn, 0, none⟩ = some (.int .i64 40) := (hnd.trans hk3 (fun _ _ e => e)).cellv hBn hlt.2
          gi_wp2
          go_roundw
          case rel => exact ⟨k + 1, by omega, by first | rw [HNx.out.1] | simp, by rw [HT.out]; exact hJ3, hnd.trans hk3 (fun _ _ e => e)⟩
          case measure =>
            clear hwr hwr2 hmin
            rw [HNx.out.1]
            show 2040 - (((40 * (k + 1) : Nat) : Int)).toNat < 2040 - ((i : Nat) : Int).toNat
            rw [Int.toNat_natCast, Int.toNat_natCast]
            have := HNx.out.2
            omega
        · gi_wp2
          refine bodyPost_ret (results_none rfl _ _ _) rfl ?_
          exact ⟨⟨_, rfl⟩, .inr ⟨_, trivial, hJx3⟩⟩
    · have hlt2 : ¬ ((i : Int) < (len : Int)) := by have := hK.out; omega
      obtain rfl : k = K := by omega
      clear hY
      gi_wp2
      go_end0
      exact ⟨⟨_, rfl⟩, .inl hJs⟩
theorem chunk_stops (F : Fence) (n : Nat) (h7 : F.fn 226) (hro : F.round = none) (hn : 1 ≤ n) (Bs Bn len cap b o K : Nat) (S : Nat → Prop) (hK : Hid (K = (len + 39) / 40 ∧ len ≤ 2000 ∧ len ≤ cap)) (w : World) (hBs : Bs < w.heap.size) (hBn : Bn < w.heap.size) (hlt : ¬ S Bs ∧ ¬ S Bn)
    (hc : w.cell? ⟨Bs, 0, none⟩ = some (.slice (some ⟨b, o, none⟩) len cap)) (hc2 : w.cell? ⟨Bn, 0, none⟩ = some (.int .i64 40)) :
    SeqStopsK F n Tryz.prog 226 #[.pointer (some ⟨Bs, 0, none⟩), .pointer (some ⟨Bn, 0, none⟩)] (fun x : Nat => #[chV b o len x]) (Kp S) (fun ys => ys = List.range K) (fun _ => True) K w := fun l J Jx W hW hJ _ hY h0 =>
  chunk1 F n h7 hro hn l Bs Bn len cap b o K S hK J Jx _ hJ hY W ((hW.cell (p := ⟨Bs, 0, none⟩) hBs).trans hc) ((hW.cell (p := ⟨Bn, 0, none⟩) hBn).trans hc2) hlt h0
end Go.Proofs.YtmooddbhcccicaaGreatDoor

/- A record's pieces. -/
namespace Go.Proofs.YtmooddbhcccicaaGreatDoor
set_option linter.unusedVariables false
set_option linter.unusedSimpArgs false
open Go.RowKit Go.Deep Go.Maps Go.Shelf

set_option maxRecDepth 100000 in
theorem chunkF_ok (b o len cap : Nat) (w : World) : Calls Tryz.prog 204 #[.slice (some ⟨b, o, none⟩) len cap, .int .i64 40] w fun e w' => e = .returned (.func (.func 226) #[] #[.pointer (some ⟨w.heap.size, 0, none⟩), .pointer (some ⟨w.heap.size + 1, 0, none⟩)]) ∧ w' = (w.alloc (.cells #[.slice (some ⟨b, o, none⟩) len cap] 34)).alloc (.cells #[.int .i64 40] 3) := by
  go_enter Tryz.func204, Tryz.ntmps204
  go_wp2
  go_ret
  exact ⟨rfl, rfl⟩
/-- a piece as it is first laid -/
def rawC (z : Int) (b o len j : Nat) : List Value := [.int .i64 z, chV b o len j, .bool false, .bool false]
theorem infoPc : (Tryz.prog.info? 232).map (fun i => (i.zero.map (·.cells.size), i.size, i.bytes)) = some (some 4, 4, 40) := by kernel_rfl
theorem infoPc2 : ∃ i z, Tryz.prog.info? 232 = some i ∧ i.zero = some z ∧ i.size = 4 ∧ i.bytes = 40 ∧ z.cells.size = 4 := by
  obtain ⟨i, hi, he⟩ := Option.map_eq_some_iff.1 infoPc
  simp only [Prod.mk.injEq] at he
  obtain ⟨h1, h2, h3⟩ := he
  obtain ⟨z, hz, h4⟩ := Option.map_eq_some_iff.1 h1
  exact ⟨i, z, hi, hz, h2, h3, h4⟩

theorem fm_get (f : Nat → List Value) (hf : ∀ j, (f j).length = 4) : ∀ (l : List Nat) (j r : Nat) (h : j < l.length), r < 4 → (l.flatMap f)[j * 4 + r]? = (f l[j])[r]?
  | [], j, r, h, _ => absurd h (Nat.not_lt_zero _)
  | a :: l, 0, r, h, hr => by
    rw [List.flatMap_cons, List.getElem?_append_left (by rw [hf]; omega), Nat.zero_mul, Nat.zero_add]
    rfl
  | a :: l, j + 1, r, h, hr => by
    rw [List.flatMap_cons, List.getElem?_append_right (by rw [hf]; omega), hf, show (j + 1) * 4 + r - 4 = j * 4 + r by omega]
    exact fm_get f hf l j r (by simpa using h) hr
theorem fm_len (f : Nat → List Value) (hf : ∀ j, (f j).length = 4) : ∀ (l : List Nat), (l.flatMap f).length = l.length * 4
  | [] => rfl
  | a :: l => by rw [List.flatMap_cons, List.length_append, hf, fm_len f hf l, List.length_cons]; omega
/-- the pieces' cells -/
def pcsC (z : Int) (b o len K : Nat) : List Value := (((List.range K).flatMap (rawC z b o len)).set 2 (.bool true)).set ((K - 1) * 4 + 3) (.bool true)

set_option maxRecDepth 100000 in
set_option maxHeartbeats 2000000 in
theorem piecesA (z : Int) (b o len cap K : Nat) (hK : Hid (K = (len + 39) / 40 ∧ len ≤ 2000 ∧ len ≤ cap)) (h1 : Hid (1 ≤ len)) (w : World) :
    CallsIn Fence.wide 4 Tryz.prog 165 #[.int .i64 z, .slice (some ⟨b, o, none⟩) len cap] w fun e w' => ∃ v, e = .returned v ∧ w'.ownsRow w.heap.size 232 4 v K (pcsC z b o len K) ∧ Below w.heap.size w w' := by
  have hC : Hid (∀ u, CallsIn Fence.wide 3 Tryz.prog 204 #[.slice (some ⟨b, o, none⟩) len cap, .int .i64 40] u fun e w' => e = .returned (.func (.func 226) #[] #[.pointer (some ⟨u.heap.size, 0, none⟩), .pointer (some ⟨u.heap.size + 1, 0, none⟩)]) ∧ w' = (u.alloc (.cells #[.slice (some ⟨b, o, none⟩) len cap] 34)).alloc (.cells #[.int .i64 40] 3)) := fun u => callsIn_wide.2 (chunkF_ok b o len cap u)
  refine callsIn_of_wp_marks Tryz.func165 rfl trivial ?_ rfl
  simp only [Tryz.ntmps165, List.size_toArray, List.length_cons, List.length_nil, Nat.reduceAdd, Nat.reduceSub, Array.replicate_succ, Array.replicate_zero, List.push_toArray, List.append_toArray, List.nil_append, List.cons_append]
  obtain ⟨B2, hB2⟩ : ∃ x, x = w.heap.size := ⟨_, rfl⟩
  obtain ⟨B5, hB5⟩ : ∃ x, x = w.heap.size + 1 := ⟨_, rfl⟩
  obtain ⟨Bs, hBs⟩ : ∃ x, x = w.heap.size + 1 + 1 := ⟨_, rfl⟩
  obtain ⟨Bn, hBn⟩ : ∃ x, x = w.heap.size + 1 + 1 + 1 := ⟨_, rfl⟩
  obtain ⟨wA, hwA⟩ : ∃ y, y = w.alloc (.cells #[.int .i64 z] 3) := ⟨_, rfl⟩
  obtain ⟨wB, hwB⟩ : ∃ y, y = wA.alloc (.cells #[.slice none 0 0] 229) := ⟨_, rfl⟩
  obtain ⟨wC, hwC⟩ : ∃ y, y = wB.alloc (.cells #[.slice (some ⟨b, o, none⟩) len cap] 34) := ⟨_, rfl⟩
  obtain ⟨wD, hwD⟩ : ∃ y, y = wC.alloc (.cells #[.int .i64 40] 3) := ⟨_, rfl⟩
  have zA : wA.heap.size = w.heap.size + 1 := by rw [hwA]; simp
  have zB : wB.heap.size = w.heap.size + 1 + 1 := by rw [hwB]; simp [zA]
  have zC : wC.heap.size = w.heap.size + 1 + 1 + 1 := by rw [hwC]; simp [zB]
  have zD : wD.heap.size = w.heap.size + 1 + 1 + 1 + 1 := by rw [hwD]; simp [zC]
  have b2 : Boxed wD B2 3 (.int .i64 z) := by
    have h1 : Boxed wA B2 3 (.int .i64 z) := by rw [hwA, hB2]; exact Boxed.new w _ _
    rw [hwD, hwC, hwB]
    exact ((h1.alloc _).alloc _).alloc _
  have b5 : Boxed wD B5 229 (.slice none 0 0) := by
    have h1 : Boxed wB B5 229 (.slice none 0 0) := by rw [hwB, hB5, ← zA]; exact Boxed.new wA _ _
    rw [hwD, hwC]
    exact (h1.alloc _).alloc _
  have cs : wD.cell? ⟨Bs, 0, none⟩ = some (.slice (some ⟨b, o, none⟩) len cap) := by
    have h1 : Boxed wC Bs 34 (.slice (some ⟨b, o, none⟩) len cap) := by rw [hwC, hBs, ← zB]; exact Boxed.new wB _ _
    rw [hwD]
    exact (h1.alloc _).cell
  have cn : wD.cell? ⟨Bn, 0, none⟩ = some (.int .i64 40) := by
    have h1 : Boxed wD Bn 3 (.int .i64 40) := by rw [hwD, hBn, ← zC]; exact Boxed.new wC _ _
    exact h1.cell
  have hb0 : Below w.heap.size w wD := by
    rw [hwD, hwC, hwB, hwA]
    exact (((((Below.refl _ w).alloc (Nat.le_refl _) _).alloc (by simp) _).alloc (by simp; omega) _).alloc (by simp; omega) _)
  have hseq := chunk_stops Fence.wide 3 trivial rfl (by omega) Bs Bn len cap b o K (fun x => x = B5 ∨ wD.heap.size ≤ x) hK wD (by omega) (by omega) ⟨by omega, by omega⟩ cs cn
  obtain ⟨ti, tz, hi0, hz0, hz1, hz2, hz3⟩ := infoPc2
  have hte : 229 ≠ 232 := by decide
  gi_wp2
  refine ⟨trivial, (hC.out _).mono ?_⟩
  rintro e w1 ⟨rfl, hw1⟩
  subst hw1
  gi_wp2
  rw [← hwA, ← hwB, ← hwC, ← hwD, ← hBn, ← hBs, ← hB5, ← hB2]
  have HD : Hid (w.heap.size ≤ B2 ∧ w.heap.size ≤ B5 ∧ B2 ≠ B5 ∧ B2 < wD.heap.size ∧ B5 < wD.heap.size) := ⟨by omega, by omega, by omega, by omega, by omega⟩
  clear hwA hwB hwC hwD hBn hBs hB5 hB2 zA zB zC zD cs cn hC
  refine wpIn_rangeFunc_ownG rfl (by omega) (gf := 226) (lb := #[.pointer (some ⟨Bs, 0, none⟩), .pointer (some ⟨Bn, 0, none⟩)]) rfl trivial (enters_of Tryz.func226 (by kernel_rfl) rfl)
    hseq (fun h k => h.trans k (fun _ _ e => e)) (fun W l o o' hl hW ho _ => ⟨rfl, rfl, rfl, by simp, fun k hk hn => ?_⟩) (Below.refl _ _) (fun _ => rfl)
    (fun pre W => (((∃ v, Boxed W B5 229 v ∧ W.ownsRow wD.heap.size 232 4 v pre.length (pre.flatMap (rawC z b o len)) ∧ True) ∧ Below w.heap.size w W) ∧ Boxed W B2 3 (.int .i64 z)) ∧ wD.heap.size ≤ W.heap.size)
    (fun _ _ _ => False)
    (OwnFrom.and (OwnFrom.and (OwnFrom.and (Own.from (holdsRow_own wD.heap.size B5 229 232 4 List.length (fun pre => pre.flatMap (rawC z b o len)) (fun _ _ => True)) _) (ownFrom_below ?_ ?_)) ?_) ?_)
    (fun _ _ _ _ _ hs _ _ => hs)
    ⟨⟨⟨⟨_, b5, World.ownsRow_nil _ _ _ _, trivial⟩, hb0⟩, b2⟩, Nat.le_refl _⟩
    (fun x => { tmps := #[.int .i64 z, .slice (some ⟨b, o, none⟩) len cap, .pointer (some ⟨B2, 0, none⟩), undef, .slice none 0 0, .pointer (some ⟨B5, 0, none⟩), chV b o len x, .slice (some ⟨b, o, none⟩) len cap, .func (.func 226) #[] #[.pointer (some ⟨Bs, 0, none⟩), .pointer (some ⟨Bn, 0, none⟩)], chV b o len x, undef, undef, undef, undef, undef, undef, undef, undef, undef, undef, undef, undef, undef, undef, undef, undef], defers := [] }) ?assign ?body ?done ?stop
  case refine_1 =>
    have hkl : k ≠ l := fun e => hn (Or.inr (by omega))
    simp [World.putObj, Array.getElem?_setIfInBounds_ne (Ne.symm hkl)]
  case refine_2 => exact Nat.le_refl _
  case refine_3 => exact hb0.size
  case refine_4 =>
    intro s W W' row hs hg hr
    exact hs.kept hg (fun e' => by
      obtain ⟨o, ho, hc⟩ := (hr B2 e'.symm).2
      rw [show W.heap[B2]? = _ from hs] at ho
      cases ho
      cases hc)
  case refine_5 => exact fun s W W' row hs hg _ => Nat.le_trans hs hg.size
  case assign =>
    intro l x W K hK
    gi_wp2_with gi_round_op_a
    exact hK
  case body =>
    rintro l pre x W ⟨⟨⟨⟨v, hv, hrow, _⟩, hB⟩, hz9⟩, hws⟩ hlen
    have HWs : Hid (wD.heap.size ≤ W.heap.size) := hws
    have hc5 := hv.cell
    have hf5 := hv.frozen
    have hc2 := hz9.cell
    have hBs2 := hB.size
    have hlw : pre.length < 60 := by have := hK.out; omega
    obtain ⟨cl, hcl⟩ : ∃ c, c = chL len x := ⟨_, rfl⟩
    obtain ⟨ox, hox⟩ : ∃ y, y = o + 40 * x := ⟨_, rfl⟩
    have hch : chV b o len x = .slice (some ⟨b, ox, none⟩) cl cl := by unfold chV; rw [hcl, hox]
    have HRaw : Hid (rawC z b o len x = [.int .i64 z, .slice (some ⟨b, ox, none⟩) cl cl, .bool false, .bool false]) := by show _ = _; unfold rawC; rw [hch]
    have HCells : Hid (∀ j u, ([.int .i64 z, .slice (some ⟨b, ox, none⟩) cl cl, .bool false, .bool false] : List Value)[j]? = some u → (W.alloc (.cells #[.int .i64 z, .slice (some ⟨b, ox, none⟩) cl cl, .bool false, .bool false] 232)).cell? ((⟨W.heap.size, 0, none⟩ : Addr).add j) = some u) := fun j u hu => by
      rw [Addr.add_mid, Nat.zero_add]
      exact (Lv.new W _ _).cell hu
    have HOne : Hid (∀ u ∈ ([.int .i64 z, .slice (some ⟨b, ox, none⟩) cl cl, .bool false, .bool false] : List Value), u.oneCell' = true) := fun u hu => by
      simp only [List.mem_cons, List.not_mem_nil, or_false] at hu
      rcases hu with rfl | rfl | rfl | rfl <;> rfl
    have HOwn : Hid ((W.alloc (.cells #[.int .i64 z, .slice (some ⟨b, ox, none⟩) cl cl, .bool false, .bool false] 232)).ownsRow wD.heap.size 232 4 v pre.length (pre.flatMap (rawC z b o len))) := hrow.alloc _
    have HBnd : Hid (pre.length + 1 ≤ maxLen ∧ (pre.length + 1) * 40 ≤ 140737488355328 ∧ wD.heap.size ≤ (W.alloc (.cells #[.int .i64 z, .slice (some ⟨b, ox, none⟩) cl cl, .bool false, .bool false] 232)).heap.size) := ⟨by unfold maxLen; omega, by omega, by
      have : wD.heap.size ≤ W.heap.size := HWs.out
      simp
      omega⟩
    have hrow2 : Hid (W.ownsRow wD.heap.size 232 4 v pre.length (pre.flatMap (rawC z b o len))) := hrow
    rw [hch]
    clear hcl hox hch hrow
    gi_wp2_with (first
      | (gi_at_builtin; refine wpListIn_append_own _ rfl _ _ 229 rfl wD.heap.size 232 ti tz 4 40 Tryz.underlying229 hi0 hz0 hz1 hz2 hz3 (by decide) _ _ _ rfl HOwn.out ⟨W.heap.size, 0, none⟩ 1 1 _ rfl rfl HCells.out HOne.out HBnd.out.1 HBnd.out.2.1 HBnd.out.2.2 ?_; intro v' w3 hown' hg3 hnil3
         obtain ⟨g', cap', rfl⟩ := ownsRow_succ hown'
         have hap := Boxed.appended hv hte (ownsRow_base hrow2.out hb0.size) hBs2 HD.out.2.1 (ownsRow_base hown' hb0.size) hg3
         have hc3 := hap.1.cell
         have hf3 := hap.1.frozen
         go_frame)
      | gi_round_op_a)
    have k2 : Kp (fun bb => v.ownBlock = some bb) (W.alloc (.cells #[.int .i64 z, .slice (some ⟨b, ox, none⟩) cl cl, .bool false, .bool false] 232)) w3 := grownBy_kp hg3
    have k1 : Kp (fun _ => False) W (W.alloc (.cells #[.int .i64 z, .slice (some ⟨b, ox, none⟩) cl cl, .bool false, .bool false] 232)) := (Kp.refl _ _).alloc _
    have k3 : Kp (fun bb => bb = B5) w3 (w3.setCell ⟨B5, 0, none⟩ (.slice (some ⟨g', 0, none⟩) (pre.length + 1) cap')) := kp_set
    have hS : Kp (fun y => y = B5 ∨ wD.heap.size ≤ y) W (w3.setCell ⟨B5, 0, none⟩ (.slice (some ⟨g', 0, none⟩) (pre.length + 1) cap')) := ((k1.mono (fun _ _ e => e.elim)).trans k2 (fun bb hb e => Or.inr (ownBlock_lt hrow2.out e).1)).trans k3 (fun _ _ e => Or.inl e)
    have hgB : wD.heap.size ≤ g' := (ownBlock_lt hown' (g := g') rfl).1
    have own9 : (w3.setCell ⟨B5, 0, none⟩ (.slice (some ⟨g', 0, none⟩) (pre.length + 1) cap')).ownsRow wD.heap.size 232 4 (.slice (some ⟨g', 0, none⟩) (pre.length + 1) cap') (pre.length + 1) (pre.flatMap (rawC z b o len) ++ [.int .i64 z, .slice (some ⟨b, ox, none⟩) cl cl, .bool false, .bool false]) := ownsRow_keep hown' k3 (fun g0 e e2 => by
      have e' : some g' = some g0 := e
      injection e' with e'
      have := HD.out
      omega)
    have hnum : Boxed (w3.setCell ⟨B5, 0, none⟩ (.slice (some ⟨g', 0, none⟩) (pre.length + 1) cap')) B2 3 (.int .i64 z) := by
      unfold Boxed
      rw [hS.block B2 (by have := HD.out; have := HWs.out; omega) (fun e => by have := HD.out; omega)]
      exact hz9
    refine ⟨hap.2.2.2.1.from _, hS, ⟨⟨⟨⟨_, hap.2.1, ?_, trivial⟩, hB.trans hap.2.2.2.2⟩, hnum⟩, Nat.le_trans HWs.out hS.size⟩⟩
    have e1 : (pre ++ [x]).length = pre.length + 1 := by rw [List.length_append]; rfl
    have e2 : (pre ++ [x]).flatMap (rawC z b o len) = pre.flatMap (rawC z b o len) ++ [.int .i64 z, .slice (some ⟨b, ox, none⟩) cl cl, .bool false, .bool false] := by rw [List.flatMap_append, List.flatMap_singleton, HRaw.out]
    rw [e1, e2]
    exact own9
  case done =>
    rintro D ys W hD rfl ⟨⟨⟨⟨v, hv, hrow, _⟩, hB⟩, hz9⟩, hws⟩ hK9
    rw [List.length_range] at hrow
    have hK1 : 1 ≤ K := by have := hK.out; have := h1.out; omega
    have hKb : K ≤ 50 := by have := hK.out; omega
    obtain ⟨g, cp, rfl⟩ : ∃ g cp, v = .slice (some ⟨g, 0, none⟩) K cp := by
      rcases Joins.ownsRow_forms hrow with ⟨e1, e2⟩ | ⟨g, cp, e⟩
      · omega
      · exact ⟨g, cp, e⟩
    have hraw : ∀ j, (rawC z b o len j).length = 4 := fun j => rfl
    have hgD : wD.heap.size ≤ g := (ownBlock_lt hrow (g := g) rfl).1
    have hc3 := hv.cell
    have fz : ∀ j, W.frozen? ⟨g, j, none⟩ = false := fun j => own_frzI hrow j
    obtain ⟨y, hy⟩ : ∃ y, y = K - 1 := ⟨_, rfl⟩
    have ca : W.cell? ⟨g, 2, none⟩ = some (.bool false) := by
      have h2 := hrow.cells (g := g) rfl 2 (.bool false) (by
        have := fm_get (rawC z b o len) hraw (List.range K) 0 2 (by rw [List.length_range]; omega) (by omega)
        rw [Nat.zero_mul, Nat.zero_add] at this
        rw [this]; rfl)
      rw [Addr.add_mid, Nat.zero_add] at h2
      exact h2
    have cb : W.cell? ⟨g, y * 4 + 3, none⟩ = some (.bool false) := by
      have h2 := hrow.cells (g := g) rfl (y * 4 + 3) (.bool false) (by
        have := fm_get (rawC z b o len) hraw (List.range K) y 3 (by rw [List.length_range]; omega) (by omega)
        rw [this]; rfl)
      rw [Addr.add_mid, Nat.zero_add] at h2
      exact h2
    have hne : (⟨g, 2, none⟩ : Addr) ≠ ⟨g, y * 4 + 3, none⟩ := fun e => by injection e with _ e; omega
    have cb2 : (W.setCell ⟨g, 2, none⟩ (.bool true)).cell? ⟨g, y * 4 + 3, none⟩ = some (.bool false) := by rw [World.cell?_setCell_other _ _ _ _ hne]; exact cb
    have hlt0 : (0 : Int) < (K : Int) := by omega
    have hlty : (y : Int) < (K : Int) := by omega
    have HW1 : Hid (wrap64 ((K : Int) - 1) = (y : Int)) := by show _ = _; unfold wrap64; omega
    have HO : Hid (((W.setCell ⟨g, 2, none⟩ (.bool true)).setCell ⟨g, y * 4 + 3, none⟩ (.bool true)).ownsRow wD.heap.size 232 4 (.slice (some ⟨g, 0, none⟩) K cp) K (pcsC z b o len K)) := by
      have o1 := own_setI hrow 2 (.bool true) (by rw [fm_len _ hraw, List.length_range]; omega)
      have o2 := own_setI o1 (y * 4 + 3) (.bool true) (by rw [List.length_set, fm_len _ hraw, List.length_range]; omega)
      show World.ownsRow _ _ _ _ _ _ _
      unfold pcsC
      rw [← hy]
      exact o2
    have hgc : ∃ cur, W.heap[g]? = some (.cells cur 232 (0, 0)) := by
      rcases hrow.2 with ⟨h0, _⟩ | ⟨g', cap', cur, hv', hg', hh, hnn, hcap, hsz, htake⟩
      · cases h0
      · cases hv'
        exact ⟨cur, hh⟩
    have hDg : D ≠ g := fun e => by
      obtain ⟨cur, hh⟩ := hgc
      rw [e, hh] at hK9
      cases hK9
    obtain ⟨WF, hWF⟩ : ∃ X, X = ((W.setCell ⟨g, 2, none⟩ (.bool true)).setCell ⟨g, y * 4 + 3, none⟩ (.bool true)).drew := ⟨_, rfl⟩
    have kF : Kp (fun bb => bb = g) W WF := by rw [hWF]; exact (kp_set.trans kp_set (fun _ _ e => e)).drew
    have HOF : Hid (WF.ownsRow wD.heap.size 232 4 (.slice (some ⟨g, 0, none⟩) K cp) K (pcsC z b o len K)) := by
      show World.ownsRow _ _ _ _ _ _ _
      rw [hWF]
      exact ownsRow_keep HO.out (Kp.refl (fun _ => False) _).drew (fun _ _ => id)
    have HKF : Hid (WF.heap[D]? = some (.deferred (some []))) := by
      show _ = _
      rw [kF.block D (by
        by_cases h : D < W.heap.size
        · exact h
        · rw [Array.getElem?_eq_none (by omega)] at hK9; cases hK9) hDg]
      exact hK9
    have hc6 : WF.cell? ⟨B5, 0, none⟩ = some (.slice (some ⟨g, 0, none⟩) K cp) := kF.cellv hc3 (fun e => by
      have e' : B5 = g := e
      have := HD.out
      omega)
    have HBF : Hid (Below w.heap.size w WF) := hB.trans ⟨kF.os, kF.tape, kF.output, kF.size, fun k hk => kF.block k (by have := hB.size; omega) (fun e => by
      have e' : k = g := e
      have := HD.out
      omega)⟩
    have HDD : Hid (wD.heap.size ≤ D) := hD
    clear cb hrow hv hz9 hne HW1 hgc hDg kF
    rw [hy] at hWF cb2
    clear hy hlty
    have hlty : ((K : Int) - 1) < (K : Int) := by omega
    gi_wp2
    gi_region
    rw [← hWF]
    clear hWF
    gi_wp2
    refine ⟨by simp, .inl ⟨_, _, rfl, run_takeDeferred HKF.out, ?_⟩⟩
    exact ⟨_, results_tmp rfl _ _ _, _, rfl, ownsRow_base (ownsRow_putObj HOF.out _ HKF.out rfl) hb0.size, HBF.out.trans (belowK_b (w := w) (Nat.le_refl _) WF D _ _ (by have := HDD.out; have := hb0.size; omega) HKF.out rfl rfl)⟩
  case stop =>
    rintro D c pre W _ _ h _
    exact h.elim
/-- a record's pieces -/
theorem pieces_ok (z : Int) (b o len cap K : Nat) (hK : Hid (K = (len + 39) / 40 ∧ len ≤ 2000 ∧ len ≤ cap)) (h1 : Hid (1 ≤ len)) (w : World) :
    Calls Tryz.prog 165 #[.int .i64 z, .slice (some ⟨b, o, none⟩) len cap] w fun e w' => ∃ v, e = .returned v ∧ w'.ownsRow w.heap.size 232 4 v K (pcsC z b o len K) ∧ Below w.heap.size w w' := (callsIn_wide (n := 4)).1 (piecesA z b o len cap K hK h1 w)
end Go.Proofs.YtmooddbhcccicaaGreatDoor
