/- A shelf's map: maps.Values, collected. -/
import Derived.Test.YtippipeebkkghaaGreatDoorIm
import Derived.Shelf.AbstractIn
import Derived.RangeFuncSeq
import Derived.RangeFuncBox
import Derived.RangeFuncLeaves
import Derived.RangeFuncNested
import Derived.Sort.MapsRangeIn
import Derived.Shelf.SlIterI.Sorted
import Derived.WalkKit
import Derived.OwnWalkIn
import Derived.TacticsInMore
import Derived.RegionIn
import Derived.LoopNIn
import Derived.LoopIn
namespace Go.Proofs.YtippipeebkkghaaGreatDoor
set_option linter.unusedVariables false
set_option linter.unusedSimpArgs false
open Go.RowKit Go.Deep Go.Maps Go.Shelf Go.Sort

set_option maxRecDepth 100000 in
/-- what is a key, is a thing -/
theorem key3 {v : Value} {kl : Lit} (h : keyOf Tryz.prog 120 v = some kl) : ∃ x : K3, v = pv3 x ∧ wf3 x ∧ kl = pk3 x := by
  obtain ⟨m, hm⟩ := p3t
  unfold keyOf at h
  simp only [Tryz.underlying120, p3k, Bool.true_and] at h
  by_cases hf : v.formed Tryz.prog 120 = true
  · rw [if_pos hf] at h
    obtain ⟨ls, hl, he⟩ := Option.map_eq_some_iff.1 h
    cases v <;> simp [Value.formed, Tryz.underlying120, p3c.1] at hf
    rename_i cs
    obtain ⟨l⟩ := cs
    match l, hf with
    | [a, b, d], _ =>
      rw [hm] at hl
      unfold Program.keyLits at hl
      simp only [Tryz.underlying120, p3c.1, p3c.2] at hl
      simp [Value.cells, List.range_succ, p3c.2] at hl
      have one : ∀ (x : Value) (y : List Lit), Tryz.prog.keyLits (m + 1) 3 [x] = some y → ∃ c : Int, x = .int .i64 c ∧ (Lit.int .i64 c).wf = true ∧ y = [.int .i64 c] := fun x y hy => by
        unfold Program.keyLits at hy
        simp only [Tryz.underlying3] at hy
        cases x <;> simp at hy
        obtain ⟨⟨h1, h2⟩, h3⟩ := hy
        subst h1
        exact ⟨_, rfl, h2, h3.symm⟩
      cases ha : Tryz.prog.keyLits (m + 1) 3 [a] with
      | none => simp [ha] at hl
      | some ya =>
        cases hb : Tryz.prog.keyLits (m + 1) 3 [b] with
        | none => simp [ha, hb] at hl
        | some yb =>
          cases hd : Tryz.prog.keyLits (m + 1) 3 [d] with
          | none => simp [ha, hb, hd] at hl
          | some yd =>
            obtain ⟨c, rfl, hc, rfl⟩ := one a ya ha
            obtain ⟨e, rfl, he', rfl⟩ := one b yb hb
            obtain ⟨f, rfl, hf', rfl⟩ := one d yd hd
            simp [ha, hb, hd] at hl
            exact ⟨⟨c, e, f⟩, rfl, ⟨hc, he', hf'⟩, by rw [← he, ← hl]; rfl⟩
  · rw [if_neg hf] at h; cases h

/-- what a record has besides its thing -/
structure G3 where
  e : Int
  p : Option Addr
  n : Nat
  c : Nat

instance : Inhabited K3 := ⟨⟨0, 0, 0⟩⟩

/-- a record's cells -/
def cE (G : K3 → G3) (x : K3) : List Value := [.int .i64 x.k, .int .i64 x.n, .int .i64 x.i, .int .i64 (G x).e, .slice (G x).p (G x).n (G x).c]

abbrev vE (G : K3 → G3) (x : K3) : Value := .agg #[.int .i64 x.k, .int .i64 x.n, .int .i64 x.i, .int .i64 (G x).e, .slice (G x).p (G x).n (G x).c]

def flat3 (G : K3 → G3) (l : List K3) : List Value := l.flatMap (cE G)

/-- the map's values are G's -/
def Gof (T : K3 → Option Value) (G : K3 → G3) : Prop := ∀ x, wf3 x → ∀ v, T x = some v → v = vE G x

/-- the things that have come so far -/
def V3 (D0 : DataW Value) (left : Lit → Bool) (ss : List K3) : Prop := ss.Nodup ∧ (∀ x ∈ ss, wf3 x) ∧ ∀ x : K3, wf3 x → (x ∈ ss ↔ Maps.has D0 (pk3 x) = true ∧ left (pk3 x) = false)

theorem V3.start (D0 : DataW Value) : V3 D0 (Maps.has D0) [] := ⟨List.nodup_nil, fun _ h => (by cases h), fun x _ => by cases Maps.has D0 (pk3 x) <;> simp⟩

theorem V3.step {D0 : DataW Value} {left : Lit → Bool} {ss : List K3} (h : V3 D0 left ss) {x : K3} (hw : wf3 x) {y : DataW Value} (hlk : left (pk3 x) = true) (hat : ∀ zd, D0.atKey (pk3 x) zd = y) : V3 D0 (fun z => left z && !z.sameKey (pk3 x)) (ss ++ [x]) := by
  have hhas : Maps.has D0 (pk3 x) = true := has_true_of_atKey hat
  have hnew : x ∉ ss := fun hx => by have := ((h.2.2 x hw).1 hx).2; rw [hlk] at this; cases this
  refine ⟨List.nodup_append.2 ⟨h.1, by simp, fun a ha b hb => by simp at hb; subst hb; exact fun e => hnew (e ▸ ha)⟩, fun a ha => ?_, fun y hy => ?_⟩
  · rcases List.mem_append.1 ha with ha | ha
    · exact h.2.1 a ha
    · rw [List.mem_singleton.1 ha]; exact hw
  · by_cases e : y = x
    · subst e
      have hs : (pk3 y).sameKey (pk3 y) = true := WideAt.sameKey_self (pk3_lit hw)
      simp [hhas, hs]
    · have hs : (pk3 y).sameKey (pk3 x) = false := sameKey_ne (fun e2 => e (pk3_inj hy hw e2))
      simp [h.2.2 y hy, e, hs]

/-- what the map has at a key that is there -/
theorem Pd3.val {D : DataW Value} {c : Nat} {T : K3 → Option Value} (h : Pd3 D c T) {G : K3 → G3} (hG : Gof T G) {x : K3} (hw : wf3 x) {v : Value} (hat : ∀ zd, D.atKey (pk3 x) zd = .held v) : v = vE G x := by
  cases hz : T x with
  | none =>
    have h1 := h.no x hw hz
    rw [has_true_of_atKey hat] at h1
    cases h1
  | some u =>
    have h1 := (h.yes x hw u hz).2 (.held v)
    rw [hat] at h1
    injection h1 with h1
    rw [h1]
    exact hG x hw u hz

set_option maxRecDepth 100000 in
set_option maxHeartbeats 2000000 in
theorem vals3_1 (F : Fence) (n : Nat) (h10 : F.fn 149) (hro : F.round = none) (hn : 1 ≤ n) (l Bm b nn : Nat) (D0 : DataW Value) (G : K3 → G3) (T : K3 → Option Value) (hT : Pd3 D0 nn T) (hG : Gof T G) (J Jx : List K3 → World → Prop)
    (hY : ∀ pre x W, J pre W → pre.length < Maps.size D0 → YieldAt F (n - 1) Tryz.prog l #[vE G x] W fun e W' => (e = .returned (.bool true) ∧ J (pre ++ [x]) W' ∧ KeepsWalks W W') ∨ (e = .returned (.bool false) ∧ Jx (pre ++ [x]) W'))
    (W : World) (hJ : AbidesFrom W.heap.size J) (hm : W.cell? ⟨Bm, 0, none⟩ = some (.map (some b))) (hown : W.ownsMap Tryz.prog 120 idK b nn D0) (h0 : J [] W) :
    CallsIn F n Tryz.prog 149 #[.func (.yield l) #[] #[], .pointer (some ⟨Bm, 0, none⟩)] W fun e W' => (∃ v, e = .returned v) ∧ ((∃ ss, V3 D0 (fun _ => false) ss ∧ J ss W') ∨ (∃ pre : List K3, True ∧ Jx pre W')) := by
  refine callsIn_of_wp Tryz.func149 rfl h10 ?_ hro
  simp only [Tryz.ntmps149, List.size_toArray, List.length_cons, List.length_nil, Nat.reduceAdd, Nat.reduceSub, Array.replicate_succ, Array.replicate_zero, List.push_toArray, List.append_toArray, List.nil_append, List.cons_append]
  gi_wp2_with (first
    | (gi_at_range; refine wpListIn_range_own _ rfl _ 93 rfl 120 122 p3Law Tryz.underlying93 _ b nn _ rfl hown ?_; intro w0 hrg0 hg0 hs0)
    | gi_in)
  go_frame
  gi_loopw [4] (fun _ wr => ∃ (left : Lit → Bool) (cnt : Nat) (ss : List K3), wr.ranges Tryz.prog 120 idK b W.heap.size nn D0 left cnt ∧ ss.length + cnt ≤ Maps.size D0 ∧ V3 D0 left ss ∧ J ss wr)
    (fun _ wr => wr.rangeLeft b W.heap.size)
  case atStart =>
    exact ⟨_, _, [], hrg0, by simp, V3.start D0, hJ [] W w0 none h0 hg0 (fun r e => by cases e)⟩
  case round =>
    obtain ⟨left, cnt, ss, hrg, hcs, hC, hJs⟩ := hrel
    gi_wp2_with (first
      | (gi_at_next; refine wpListIn_next_ranges _ rfl _ rfl 120 p3Law idK (fun x : K3 => pv3 x) id (fun key kl hk => by obtain ⟨x, hx, _⟩ := key3 hk; exact ⟨x, hx⟩) (fun v _ _ => ⟨v, rfl⟩) b W.heap.size nn _ _ _ rfl hrg ?_ ?_)
      | gi_in)
    · intro hc0 hl0
      gi_wp2
      go_end0
      obtain ⟨q1, q2, q3⟩ := hC
      exact ⟨⟨_, rfl⟩, .inl ⟨ss, ⟨q1, q2, fun x hx => by rw [q3 x hx, hl0]⟩, hJs⟩⟩
    · intro x c kl y yp w2 cnt2 hkey hlk hv hat hrg2 hlt hg2 hs2 hen
      obtain ⟨x', ex, hwx, rfl⟩ := key3 hkey
      obtain rfl : x = x' := by
        cases x
        cases x'
        simpa using ex
      have hy0 : y = .held c := by have := hv; simp only [idK, Option.some.injEq, Prod.mk.injEq] at this; exact this.1.symm
      rw [hy0] at hat
      have hc := hT.val hG hwx hat
      rw [hc] at hen
      have hJ2 : J ss w2 := hJ ss wr w2 (some W.heap.size) hJs hg2 (fun r e => by cases e; exact ⟨Nat.le_refl _, hrg.iter_walk⟩)
      obtain ⟨w5, hw5⟩ : ∃ z, z = w2.alloc (.cells #[.int .i64 x.k, .int .i64 x.n, .int .i64 x.i, .int .i64 (G x).e, .slice (G x).p (G x).n (G x).c] 122) := ⟨_, rfl⟩
      have hJ3 : J ss w5 := hJ ss w2 _ none hJ2 (by rw [hw5]; exact ⟨rfl, rfl, rfl, by simp, fun k hk _ => blk_alloc_lt _ _ _ hk⟩) (fun r e => by cases e)
      obtain ⟨fn, tmps, assign, body, hy, hR⟩ := hY ss x _ hJ3 (by omega)
      have hC2 := hC.step (x := x) hwx hlk hat
      have HR : Hid (wr.ranges Tryz.prog 120 idK b W.heap.size nn D0 left cnt → True) := fun _ => trivial
      have KW : KeepsWalks w2 w5 := by rw [hw5]; exact KeepsWalks.alloc w2 _
      obtain ⟨xk, xn, xi⟩ := x
      obtain ⟨⟨ge, gp, gn, gc⟩, hgx⟩ : ∃ z, z = G ⟨xk, xn, xi⟩ := ⟨_, rfl⟩
      simp only [vE] at hy hen
      rw [← hgx] at hw5 hy hen
      dsimp only at hw5 hy hR hen
      clear hs2 hJ2 hgx hc hy0 hv hat HR
      subst hw5
      gi_wp2
      refine hR.mono ?_
      rintro e W3 (⟨rfl, hJ3', hk3⟩ | ⟨rfl, hJx3⟩)
      · gi_wp2
        have hrg3 := (hrg2.of_walks KW).of_walks hk3
        go_roundw
        case rel => exact ⟨_, cnt2, ss ++ [⟨xk, xn, xi⟩], hrg3, by simp; omega, hC2, hJ3'⟩
        case measure => rw [hrg3.left_eq, hrg.left_eq]; exact hlt
      · gi_wp2
        refine bodyPost_ret (results_none rfl _ _ _) rfl ?_
        exact ⟨⟨_, rfl⟩, .inr ⟨_, trivial, hJx3⟩⟩

theorem vals3_stops (F : Fence) (n : Nat) (h10 : F.fn 149) (hro : F.round = none) (hn : 1 ≤ n) (Bm b nn : Nat) (D0 : DataW Value) (G : K3 → G3) (T : K3 → Option Value) (hT : Pd3 D0 nn T) (hG : Gof T G) (w : World) (hBm : Bm < w.heap.size)
    (hm : w.cell? ⟨Bm, 0, none⟩ = some (.map (some b))) (hown : w.ownsMap Tryz.prog 120 idK b nn D0) :
    SeqStopsK F n Tryz.prog 149 #[.pointer (some ⟨Bm, 0, none⟩)] (fun x : K3 => #[vE G x]) KeepsWalks (fun ss => V3 D0 (fun _ => false) ss) (fun _ => True) (Maps.size D0) w := fun l J Jx W hW hJ _ hY h0 => by
  have hown' : W.ownsMap Tryz.prog 120 idK b nn D0 := by
    have hbl := hown.lt
    obtain ⟨es, clock, hb, Ft, hs, hD⟩ := hown
    exact ⟨es, clock, (hW.block b hbl).trans hb, Ft, hs, hD⟩
  exact vals3_1 F n h10 hro hn l Bm b nn D0 G T hT hG J Jx hY W hJ ((hW.cell (p := ⟨Bm, 0, none⟩) hBm).trans hm) hown' h0

theorem infoR0 : (Tryz.prog.info? 122).map (fun i => (i.zero.map (·.cells.size), i.size, i.bytes)) = some (some 5, 5, 56) := by kernel_rfl

theorem infoR : ∃ i z, Tryz.prog.info? 122 = some i ∧ i.zero = some z ∧ i.size = 5 ∧ i.bytes = 56 ∧ z.cells.size = 5 := by
  obtain ⟨i, hi, he⟩ := Option.map_eq_some_iff.1 infoR0
  simp only [Prod.mk.injEq] at he
  obtain ⟨h1, h2, h3⟩ := he
  obtain ⟨z, hz, h4⟩ := Option.map_eq_some_iff.1 h1
  exact ⟨i, z, hi, hz, h2, h3, h4⟩

theorem flat3_append (G : K3 → G3) (l m : List K3) : flat3 G (l ++ m) = flat3 G l ++ flat3 G m := by unfold flat3; rw [List.flatMap_append]

set_option maxRecDepth 100000 in
set_option maxHeartbeats 2000000 in
/-- slices.AppendSeq(nil, maps.Values(m)) -/
theorem apvals (Bm b nn : Nat) (D0 : DataW Value) (G : K3 → G3) (T : K3 → Option Value) (hT : Pd3 D0 nn T) (hG : Gof T G) (hsz : Maps.size D0 ≤ 100000) (w : World) (hBm : Bm < w.heap.size) (hm : w.cell? ⟨Bm, 0, none⟩ = some (.map (some b))) (hown : w.ownsMap Tryz.prog 120 idK b nn D0) :
    CallsIn Fence.wide 4 Tryz.prog 148 #[.slice none 0 0, .func (.func 149) #[] #[.pointer (some ⟨Bm, 0, none⟩)]] w fun e w' => ∃ v ss, e = .returned v ∧ V3 D0 (fun _ => false) ss ∧ w'.ownsRow w.heap.size 122 5 v ss.length (flat3 G ss) ∧ Below w.heap.size w w' := by
  have hte : 149 ≠ 122 := by decide
  have hb0 : Below w.heap.size w (w.alloc (.cells #[.slice none 0 0] 149)) := (Below.refl _ w).alloc (Nat.le_refl _) _
  have hown1 : (w.alloc (.cells #[.slice none 0 0] 149)).ownsMap Tryz.prog 120 idK b nn D0 := by
    have hbl := hown.lt
    obtain ⟨es, clock, hb, Ft, hs, hD⟩ := hown
    exact ⟨es, clock, (hb0.block b hbl).trans hb, Ft, hs, hD⟩
  have hseq := vals3_stops Fence.wide 3 trivial rfl (by omega) Bm b nn D0 G T hT hG (w.alloc (.cells #[.slice none 0 0] 149)) (by simp; omega) ((hb0.cell (p := ⟨Bm, 0, none⟩) hBm).trans hm) hown1
  obtain ⟨ti, tz, hi1, hi2, hi3, hi4, hi5⟩ := infoR
  refine callsIn_of_wp_marks Tryz.func148 rfl trivial ?_ rfl
  simp only [Tryz.ntmps148, List.size_toArray, List.length_cons, List.length_nil, Nat.reduceAdd, Nat.reduceSub, Array.replicate_succ, Array.replicate_zero, List.push_toArray, List.append_toArray, List.nil_append, List.cons_append]
  gi_wp2
  refine wpIn_rangeFunc_ownH rfl (by omega) (gf := 149) (lb := #[.pointer (some ⟨Bm, 0, none⟩)]) rfl trivial (enters_of Tryz.func149 (by kernel_rfl) rfl)
    hseq walksK_t walksK_b (Below.refl _ _) (fun _ => rfl)
    (fun pre W => (∃ v, Boxed W w.heap.size 149 v ∧ W.ownsRow w.heap.size 122 5 v pre.length (flat3 G pre) ∧ True) ∧ Below w.heap.size w W)
    (fun _ _ _ => False)
    (OwnFrom.and (Own.from (holdsRow_own w.heap.size w.heap.size 149 122 5 List.length (flat3 G) (fun _ _ => True)) _) (ownFrom_below (Nat.le_refl _) (by simp)))
    (fun _ _ _ _ _ hs _ _ => hs)
    ⟨⟨_, Boxed.new w _ _, World.ownsRow_nil _ _ _ _, trivial⟩, hb0⟩
    (fun x a' W => ∃ Bx, w.heap.size ≤ Bx ∧ W.cell? ⟨Bx, 0, none⟩ = some (.int .i64 x.k) ∧ W.cell? ⟨Bx, 1, none⟩ = some (.int .i64 x.n) ∧ W.cell? ⟨Bx, 2, none⟩ = some (.int .i64 x.i) ∧ W.cell? ⟨Bx, 3, none⟩ = some (.int .i64 (G x).e) ∧ W.cell? ⟨Bx, 4, none⟩ = some (.slice (G x).p (G x).n (G x).c) ∧ a' = { tmps := #[.slice none 0 0, .func (.func 149) #[] #[.pointer (some ⟨Bm, 0, none⟩)], .pointer (some ⟨w.heap.size, 0, none⟩), undef, .slice none 0 0, .pointer (some ⟨Bx, 0, none⟩), .func (.func 149) #[] #[.pointer (some ⟨Bm, 0, none⟩)], vE G x, undef, undef, undef, undef, undef], defers := [] })
    (fun x a' s A B row hs hg hr => by
      obtain ⟨Bx, h1, h2, h3, h4, h5, h6, h7⟩ := hs
      exact ⟨Bx, h1, cell_kept h2 hg (fun r e => (hr r e).2), cell_kept h3 hg (fun r e => (hr r e).2), cell_kept h4 hg (fun r e => (hr r e).2), cell_kept h5 hg (fun r e => (hr r e).2), cell_kept h6 hg (fun r e => (hr r e).2), h7⟩) ?assign ?body ?done ?stop
  case assign =>
    rintro l pre x W K hi hK
    obtain ⟨xk, xn, xi⟩ := x
    obtain ⟨⟨ge, gp, gn, gc⟩, hgx⟩ : ∃ z, z = G ⟨xk, xn, xi⟩ := ⟨_, rfl⟩
    have hcl : Lv (W.alloc (.cells #[.int .i64 xk, .int .i64 xn, .int .i64 xi, .int .i64 ge, .slice gp gn gc] 122)) W.heap.size [.int .i64 xk, .int .i64 xn, .int .i64 xi, .int .i64 ge, .slice gp gn gc] := Lv.new W _ _
    have hBW := hi.2.size
    have HKK : Hid (K { tmps := #[.slice none 0 0, .func (.func 149) #[] #[.pointer (some ⟨Bm, 0, none⟩)], .pointer (some ⟨w.heap.size, 0, none⟩), undef, .slice none 0 0, .pointer (some ⟨W.heap.size, 0, none⟩), .func (.func 149) #[] #[.pointer (some ⟨Bm, 0, none⟩)], .agg #[.int .i64 xk, .int .i64 xn, .int .i64 xi, .int .i64 ge, .slice gp gn gc], undef, undef, undef, undef, undef], defers := [] } (W.alloc (.cells #[.int .i64 xk, .int .i64 xn, .int .i64 xi, .int .i64 ge, .slice gp gn gc] 122))) := by
      obtain ⟨⟨v, hv, hrow, _⟩, hB⟩ := hi
      refine hK _ _ ((KeepsOthers.alloc _ _).from _) (KeepsWalks.alloc _ _) ⟨⟨v, hv.alloc _, hrow.alloc _, trivial⟩, hB.trans ((Below.refl _ W).alloc hB.size _)⟩ ⟨W.heap.size, hBW, hcl.cell (j := 0) rfl, hcl.cell (j := 1) rfl, hcl.cell (j := 2) rfl, ?_, ?_, ?_⟩
      · rw [← hgx]; exact hcl.cell (j := 3) rfl
      · rw [← hgx]; exact hcl.cell (j := 4) rfl
      · simp only [vE]; rw [← hgx]
    clear hK hi hcl hBW
    simp only [vE]
    rw [← hgx]
    clear hgx
    gi_wp2_with gi_round_op_a
    exact HKK.out
  case body =>
    rintro l pre x a' W hl hrl ⟨⟨v, hv, hrow, _⟩, hB⟩ ⟨Bx, hBx, cx0, cx1, cx2, cx3, cx4, rfl⟩ hlen
    have hc2 := hv.cell
    have hf2 := hv.frozen
    have hBs2 := hB.size
    have hpf : flat3 G (pre ++ [x]) = flat3 G pre ++ [.int .i64 x.k, .int .i64 x.n, .int .i64 x.i, .int .i64 (G x).e, .slice (G x).p (G x).n (G x).c] := by rw [flat3_append]; rfl
    obtain ⟨xk, xn, xi⟩ := x
    obtain ⟨⟨ge, gp, gn, gc⟩, hgx⟩ : ∃ z, z = G ⟨xk, xn, xi⟩ := ⟨_, rfl⟩
    rw [← hgx] at cx3 cx4 hpf
    have hcl : Lv (W.alloc (.cells #[.int .i64 xk, .int .i64 xn, .int .i64 xi, .int .i64 ge, .slice gp gn gc] 122)) W.heap.size [.int .i64 xk, .int .i64 xn, .int .i64 xi, .int .i64 ge, .slice gp gn gc] := Lv.new W _ _
    have HCL : Hid (∀ j u, [Value.int .i64 xk, Value.int .i64 xn, .int .i64 xi, .int .i64 ge, .slice gp gn gc][j]? = some u → (W.alloc (.cells #[.int .i64 xk, .int .i64 xn, .int .i64 xi, .int .i64 ge, .slice gp gn gc] 122)).cell? ((⟨W.heap.size, 0, none⟩ : Addr).add j) = some u) := fun j u hj => by rw [Addr.add_mid, Nat.zero_add]; exact hcl.cell hj
    clear hcl
    simp only [vE]
    rw [← hgx]
    clear hgx
    dsimp only at cx0 cx1 cx2 cx3 cx4 hpf
    gi_wp2_with (first
      | (gi_at_builtin; refine wpListIn_append_own _ rfl _ _ 149 rfl w.heap.size 122 ti tz 5 56 Tryz.underlying149 hi1 hi2 hi3 hi4 hi5 (by decide) _ _ _ rfl (hrow.alloc _) ⟨W.heap.size, 0, none⟩ 1 1 [.int .i64 xk, .int .i64 xn, .int .i64 xi, .int .i64 ge, .slice gp gn gc] rfl rfl HCL.out (by simp [Value.oneCell']) (by unfold maxLen; omega) (by omega) (by simp; omega) ?_; intro v' w3 hown' hg3 hnil3
         obtain ⟨g', cap', rfl⟩ := ownsRow_succ hown'
         have hap := Boxed.appended hv hte hrow hBs2 (Nat.le_refl _) hown' hg3
         have hc3 := hap.1.cell
         have hf3 := hap.1.frozen
         go_frame)
      | gi_round_op_a)
    exact ⟨hap.2.2.2.1.from _, hap.2.2.2.1.walks, ⟨⟨_, hap.2.1, (by rw [hpf, List.length_append]; exact ⟨hap.2.2.1, trivial⟩)⟩, hB.trans hap.2.2.2.2⟩⟩
  case done =>
    rintro D ys W hD hS ⟨⟨v, hv, hrow, _⟩, hB⟩ hK
    have hc3 := hv.cell
    gi_wp2
    refine ⟨by simp, .inl ⟨_, _, rfl, run_takeDeferred hK, ?_⟩⟩
    exact ⟨_, results_tmp rfl _ _ _, v, ys, rfl, hS, ownsRow_putObj hrow _ hK rfl, hB.trans (belowK_b (w := w) (Nat.le_refl _) W D _ _ (by simp at hD; omega) hK rfl rfl)⟩
  case stop =>
    rintro D c pre W _ _ h _
    exact h.elim

set_option maxRecDepth 100000 in
theorem valsF_ok (mb : Nat) (w : World) : Calls Tryz.prog 102 #[.map (some mb)] w fun e w' => e = .returned (.func (.func 149) #[] #[.pointer (some ⟨w.heap.size, 0, none⟩)]) ∧ w' = w.alloc (.cells #[.map (some mb)] 93) := by
  go_enter Tryz.func102, Tryz.ntmps102
  go_wp2
  go_ret
  exact ⟨rfl, rfl⟩

set_option maxRecDepth 100000 in
theorem collect3 (Bm b nn : Nat) (D0 : DataW Value) (G : K3 → G3) (T : K3 → Option Value) (hT : Pd3 D0 nn T) (hG : Gof T G) (hsz : Maps.size D0 ≤ 100000) (w : World) (hBm : Bm < w.heap.size) (hm : w.cell? ⟨Bm, 0, none⟩ = some (.map (some b))) (hown : w.ownsMap Tryz.prog 120 idK b nn D0) :
    Calls Tryz.prog 101 #[.func (.func 149) #[] #[.pointer (some ⟨Bm, 0, none⟩)]] w fun e w' => ∃ v ss, e = .returned v ∧ V3 D0 (fun _ => false) ss ∧ w'.ownsRow w.heap.size 122 5 v ss.length (flat3 G ss) ∧ Kp (fun _ => False) w w' := by
  have HE : Hid (Calls _ _ _ w _) := callsIn_wide.1 (apvals Bm b nn D0 G T hT hG hsz w hBm hm hown)
  clear hown hm
  go_enter Tryz.func101, Tryz.ntmps101
  go_wp2_with fail
  refine HE.out.mono ?_
  rintro q w' ⟨v, ss, rfl, h1, h2, h3⟩
  have HF : Hid (V3 D0 (fun _ => false) ss ∧ w'.ownsRow w.heap.size 122 5 v ss.length (flat3 G ss) ∧ Kp (fun _ => False) w w') := ⟨h1, h2, Kp.of_below h3⟩
  clear h1 h2 h3 HE
  go_wp2
  go_ret
  exact ⟨v, ss, rfl, HF.out⟩
end Go.Proofs.YtippipeebkkghaaGreatDoor
