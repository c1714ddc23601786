/- Texts of this proof, joined: Qh, Za, Tk, Th. -/
import Derived.Test.YtmncocmeafcpfaaDoorMgAO
import Derived.Test.YtmncocmeafcpfaaDoorMgAN
/- The same messages are found the same. -/
namespace Go.Proofs.YtmncocmeafcpfaaDoor
set_option linter.unusedVariables false
open Go.RowKit Go.Deep Go.Maps

set_option maxRecDepth 100000 in
set_option maxHeartbeats 1600000 in
theorem same_msg (Z1 Z2 : Nat → Prop) (μ : Ms) (v1 v2 : Value) (w : World) (h1 : Mr w Z1 μ v1) (h2 : Mr w Z2 μ v2) :
    Calls Tryd.prog 31 #[v1, v2] w fun e w' => e = .returned (.bool true) ∧ Kp (fun _ => False) w w' := by
  obtain ⟨p, cp, pv, cv, l, pb, cb, rfl, a1, a2, a3, a4, a5, a6, a7, a8, a9⟩ := h1
  obtain ⟨q, cq, qv, dv, l', qb, db, rfl, b1, b2, b3, b4, b5, b6, b7, b8, b9⟩ := h2
  obtain ⟨s, nodes, votes, bytes⟩ := μ
  simp only at a1 a2 a3 a4 a5 a6 a7 a8 a9 b1 b2 b3 b4 b5 b6 b7 b8 b9
  have HC : Hid (∀ u, Kp (fun _ => False) w u → Calls _ _ _ u _) := fun u k => same_cmd s.c Z1 Z2 p q cp cq nodes u (a1.keep k (fun _ _ => id)) (b1.keep k (fun _ _ => id)) a2
  have HV : Hid (∀ u, Kp (fun _ => False) w u → Calls _ _ _ u _) := fun u k => same_votes Z1 Z2 pv qv cv dv l l' u (a3.trans b3.symm) (a4.keep k (fun _ _ => id)) (b4.keep k (fun _ _ => id)) (a5.keep k (fun _ _ => id)) (b5.keep k (fun _ _ => id)) a6
  have HB : Hid (∀ u, Kp (fun _ => False) w u → Calls _ _ _ u _) := fun u k => bytes_same pb qb bytes.length bytes.length cb db bytes u (fl_rb (a7.keep k (fun _ _ => id)) a8) (fl_rb (b7.keep k (fun _ _ => id)) b8)
  show Calls Tryd.prog 31 #[.agg (msgA s (.slice p nodes.length cp) (.slice pv l.length cv) (.slice pb bytes.length cb)), .agg (msgA s (.slice q nodes.length cq) (.slice qv l'.length dv) (.slice qb bytes.length db))] w _
  obtain ⟨n1, hn1⟩ : ∃ x, x = nodes.length := ⟨_, rfl⟩
  obtain ⟨n2, hn2⟩ : ∃ x, x = l.length := ⟨_, rfl⟩
  obtain ⟨n4, hn4⟩ : ∃ x, x = l'.length := ⟨_, rfl⟩
  obtain ⟨n3, hn3⟩ : ∃ x, x = bytes.length := ⟨_, rfl⟩
  rw [← hn1] at HC
  rw [← hn2, ← hn4] at HV
  rw [← hn3] at HB
  rw [← hn1, ← hn2, ← hn3, ← hn4]
  clear a1 a2 a3 a4 a5 a6 a7 a8 a9 b1 b2 b3 b4 b5 b6 b7 b8 b9 hn1 hn2 hn3 hn4
  have HL1 : Hid (Lv ((w.alloc (.cells (msgA s (.slice p n1 cp) (.slice pv n2 cv) (.slice pb n3 cb)) 45)).alloc (.cells (msgA s (.slice q n1 cq) (.slice qv n4 dv) (.slice qb n3 db)) 45)) w.heap.size (msgA s (.slice p n1 cp) (.slice pv n2 cv) (.slice pb n3 cb)).toList) := (Lv.new w _ _).keep ((Kp.refl (fun _ => False) _).alloc _) id
  have HL2 : Hid (Lv ((w.alloc (.cells (msgA s (.slice p n1 cp) (.slice pv n2 cv) (.slice pb n3 cb)) 45)).alloc (.cells (msgA s (.slice q n1 cq) (.slice qv n4 dv) (.slice qb n3 db)) 45)) (w.heap.size + 1) (msgA s (.slice q n1 cq) (.slice qv n4 dv) (.slice qb n3 db)).toList) := by
    have z1 : (w.alloc (.cells (msgA s (.slice p n1 cp) (.slice pv n2 cv) (.slice pb n3 cb)) 45)).heap.size = w.heap.size + 1 := by simp
    rw [← z1]; exact Lv.new _ _ _
  go_enter Tryd.func31, Tryd.ntmps31
  go_wp2_with (first
    | (go_at_call 63; refine (HC.out _ (((Kp.refl _ _).alloc _).alloc _)).mono ?_; rintro e u1 ⟨rfl, k1⟩; have kw1 := (((Kp.refl (fun _ => False) w).alloc _).alloc _).trans k1 (fun _ _ e => e); have HLa : Hid (Lv u1 w.heap.size _) := HL1.out.keep k1 id; have HLb : Hid (Lv u1 (w.heap.size + 1) _) := HL2.out.keep k1 id; have ca : u1.cell? ⟨w.heap.size, 22, none⟩ = some (.slice pv n2 cv) := HLa.out.cell (j := 22) rfl; have cb' : u1.cell? ⟨w.heap.size + 1, 22, none⟩ = some (.slice qv n4 dv) := HLb.out.cell (j := 22) rfl; clear HL1 HL2 k1)
    | (go_at_call 64; refine (HV.out _ kw1).mono ?_; rintro e u2 ⟨rfl, k2⟩; have kw2 := kw1.trans k2 (fun _ _ e => e); have cc : u2.cell? ⟨w.heap.size, 23, none⟩ = some (.slice pb n3 cb) := (HLa.out.keep k2 id).cell (j := 23) rfl; have cd : u2.cell? ⟨w.heap.size + 1, 23, none⟩ = some (.slice qb n3 db) := (HLb.out.keep k2 id).cell (j := 23) rfl; clear HLa HLb ca cb' k2)
    | (go_at_call 18; refine (HB.out _ kw2).mono ?_; rintro e u3 ⟨rfl, rfl⟩))
  go_ret
  exact ⟨rfl, kw2⟩
end Go.Proofs.YtmncocmeafcpfaaDoor

/- Calls of clients that no call made; what a key is. -/
namespace Go.Proofs.YtmncocmeafcpfaaDoor
set_option linter.unusedVariables false
set_option linter.unusedSimpArgs false
open Go.RowKit Go.Deep

/-- v is a call that no call made -/
def Nk (w : World) (v : Value) : Prop := v = .pointer none ∨ ∃ b, v = .pointer (some ⟨b, 0, none⟩) ∧ w.cell? ⟨b, 3, none⟩ = some (.int .i64 0)
theorem Nk.keep {w w' : World} {v : Value} (h : Nk w v) (k : Kp (fun _ => False) w w') : Nk w' v := by
  rcases h with h | ⟨b, h, hc⟩
  · exact Or.inl h
  · exact Or.inr ⟨b, h, k.cellv hc id⟩

set_option maxRecDepth 100000 in
set_option maxHeartbeats 400000 in
theorem kmade (v : Value) (w : World) (h : Nk w v) : Calls Tryd.prog 71 #[v] w fun e w' => e = .returned (.bool false) ∧ w' = w := by
  rcases h with rfl | ⟨b, rfl, hc⟩
  · go_enter Tryd.func71, Tryd.ntmps71
    go_wp2
    go_ret
    exact ⟨rfl, rfl⟩
  · go_enter Tryd.func71, Tryd.ntmps71
    go_wp2
    go_ret
    exact ⟨rfl, rfl⟩

set_option maxRecDepth 100000 in
set_option maxHeartbeats 400000 in
theorem kopen (v : Value) (w : World) (h : Nk w v) : Calls Tryd.prog 75 #[v] w fun e w' => e = .returned (.bool false) ∧ w' = w := by
  have H : Hid (Calls _ _ _ w _) := kmade v w h
  clear h
  go_enter Tryd.func75, Tryd.ntmps75
  go_wp2_with (go_at_call 71; refine H.out.mono ?_; rintro e w1 ⟨rfl, hw1⟩; subst hw1)
  go_ret
  exact ⟨rfl, rfl⟩

set_option maxRecDepth 100000 in
set_option maxHeartbeats 400000 in
theorem kplace (v : Value) (c : Array Value) (nv : Value) (w : World) (h : Nk w v) : Calls Tryd.prog 35 #[v, .agg c, nv] w fun e w' => e = .returned (.int .i64 2) ∧ Kp (fun _ => False) w w' := by
  have H : Hid (∀ u, Kp (fun _ => False) w u → Calls _ _ _ u _) := fun u k => kmade v u (h.keep k)
  clear h
  go_enter Tryd.func35, Tryd.ntmps35
  go_wp2_with (go_at_call 71; refine (H.out _ (by exact (Kp.refl _ _).alloc _)).mono ?_; rintro e w1 ⟨rfl, hw1⟩; subst hw1)
  go_ret
  exact ⟨rfl, (Kp.refl _ _).alloc _⟩

set_option maxRecDepth 100000 in
set_option maxHeartbeats 400000 in
theorem kasks (v x : Value) (w : World) (h : Nk w v) : Calls Tryd.prog 41 #[v, x] w fun e w' => e = .returned (.slice none 0 0) ∧ w' = w := by
  have H : Hid (Calls _ _ _ w _) := kopen v w h
  clear h
  go_enter Tryd.func41, Tryd.ntmps41
  go_wp2_with (go_at_call 75; refine H.out.mono ?_; rintro e w1 ⟨rfl, hw1⟩; subst hw1)
  go_ret
  exact ⟨rfl, rfl⟩

set_option maxRecDepth 100000 in
set_option maxHeartbeats 400000 in
theorem kon (v : Value) (c : Array Value) (x : Value) (w : World) (h : Nk w v) : Calls Tryd.prog 36 #[v, .agg c, x] w fun e w' => e = .returned (.slice none 0 0) ∧ Kp (fun _ => False) w w' := by
  have H : Hid (∀ u, Kp (fun _ => False) w u → Calls _ _ _ u _) := fun u k => kopen v u (h.keep k)
  clear h
  go_enter Tryd.func36, Tryd.ntmps36
  go_wp2_with (go_at_call 75; refine (H.out _ (by exact (Kp.refl _ _).alloc _)).mono ?_; rintro e w1 ⟨rfl, hw1⟩; subst hw1)
  go_ret
  exact ⟨rfl, (Kp.refl _ _).alloc _⟩

set_option maxRecDepth 100000 in
set_option maxHeartbeats 400000 in
theorem kslot (v : Value) (w : World) (h : Nk w v) : Calls Tryd.prog 79 #[v] w fun e w' => e = .returned (.bool false) ∧ w' = w := by
  have H : Hid (Calls _ _ _ w _) := kopen v w h
  clear h
  go_enter Tryd.func79, Tryd.ntmps79
  go_wp2_with (go_at_call 75; refine H.out.mono ?_; rintro e w1 ⟨rfl, hw1⟩; subst hw1)
  go_ret
  exact ⟨rfl, rfl⟩

set_option maxRecDepth 100000 in
set_option maxHeartbeats 400000 in
theorem kapplied (v : Value) (c : Array Value) (x : Value) (w : World) (h : Nk w v) : Calls Tryd.prog 37 #[v, .agg c, x] w fun e w' => e = .returned (.slice none 0 0) ∧ Kp (fun _ => False) w w' := by
  have H : Hid (∀ u, Kp (fun _ => False) w u → Calls _ _ _ u _) := fun u k => kslot v u (h.keep k)
  clear h
  go_enter Tryd.func37, Tryd.ntmps37
  go_wp2_with (go_at_call 79; refine (H.out _ (by exact (Kp.refl _ _).alloc _)).mono ?_; rintro e w1 ⟨rfl, hw1⟩; subst hw1)
  go_ret
  exact ⟨rfl, (Kp.refl _ _).alloc _⟩

set_option maxRecDepth 100000 in
set_option maxHeartbeats 400000 in
theorem ktick (v x : Value) (w : World) (h : Nk w v) : Calls Tryd.prog 38 #[v, x] w fun e w' => e = .returned (.slice none 0 0) ∧ w' = w := by
  have H : Hid (Calls _ _ _ w _) := kopen v w h
  clear h
  go_enter Tryd.func38, Tryd.ntmps38
  go_wp2_with (go_at_call 75; refine H.out.mono ?_; rintro e w1 ⟨rfl, hw1⟩; subst hw1)
  go_ret
  exact ⟨rfl, rfl⟩

set_option maxRecDepth 100000 in
set_option maxHeartbeats 400000 in
theorem kdone (v : Value) (w : World) (h : Nk w v) : Calls Tryd.prog 40 #[v] w fun e w' => e = .returned (.bool false) ∧ w' = w := by
  have H : Hid (Calls _ _ _ w _) := kmade v w h
  clear h
  go_enter Tryd.func40, Tryd.ntmps40
  go_wp2_with (go_at_call 71; refine H.out.mono ?_; rintro e w1 ⟨rfl, hw1⟩; subst hw1)
  go_ret
  exact ⟨rfl, rfl⟩

theorem zeroC_one : zeroC.toList.toArray.all (·.oneCell') = true := cmd_one ⟨0, 0, ⟨#[]⟩, 0, 0, 0, 0, 0, 0, 0, 0⟩ (v := .slice none 0 0) rfl
set_option maxRecDepth 100000 in
set_option maxHeartbeats 800000 in
theorem cmd_none (v : Value) (w : World) (h : ∀ u, Kp (fun _ => False) w u → Calls Tryd.prog 79 #[v] u fun e w' => e = .returned (.bool false) ∧ w' = u) :
    Calls Tryd.prog 39 #[v] w fun e w' => e = .returned (.tuple #[.agg zeroC, .bool false]) ∧ Kp (fun _ => False) w w' := by
  have H : Hid (Calls Tryd.prog 79 #[v] (w.alloc (.cells zeroC 42)) fun e w' => e = .returned (.bool false) ∧ w' = (w.alloc (.cells zeroC 42))) := h _ ((Kp.refl _ _).alloc _)
  have HL : Hid (Lv (w.alloc (.cells zeroC 42)) w.heap.size zeroC.toList) := Lv.new w _ _
  have HO : Hid (zeroC.toList.toArray.all (·.oneCell') = true) := zeroC_one
  clear h
  go_enter Tryd.func39, Tryd.ntmps39
  go_wp2_with (first
    | (go_at_call 79; refine H.out.mono ?_; rintro e w1 ⟨rfl, hw1⟩; subst hw1)
    | (refine wpList_store_all rfl 42 _ _ rfl 12 w.heap.size zeroC.toList zeroC.toList rfl rfl HL.out szCmd rfl rfl HO.out ?_; intro w2 hl2 k2))
  refine bodyPost_ret (res_cell_tmp Tryd.results39 _ _ w.heap.size _ rfl (hl2.load dsCmd szCmd rfl)) rfl ?_
  exact ⟨rfl, ((Kp.refl (fun _ => False) w).alloc _).trans k2 (fun b hb e => by omega)⟩
theorem kcmd (v : Value) (w : World) (h : Nk w v) : Calls Tryd.prog 39 #[v] w fun e w' => e = .returned (.tuple #[.agg zeroC, .bool false]) ∧ Kp (fun _ => False) w w' :=
  cmd_none v w (fun u k => kslot v u (h.keep k))

set_option maxRecDepth 100000 in
set_option maxHeartbeats 800000 in
theorem cmdOf_put (w : World) : Calls Tryd.prog 69 #[.int .i64 1] w fun e w' => e = .returned (.int .i64 1) ∧ w' = w := by
  go_enter Tryd.func69, Tryd.ntmps69
  go_wp2
  go_ret
  exact ⟨rfl, rfl⟩
set_option maxRecDepth 100000 in
set_option maxHeartbeats 800000 in
theorem cmdOf_get (w : World) : Calls Tryd.prog 69 #[.int .i64 2] w fun e w' => e = .returned (.int .i64 2) ∧ w' = w := by
  go_enter Tryd.func69, Tryd.ntmps69
  go_wp2
  go_ret
  exact ⟨rfl, rfl⟩
set_option maxRecDepth 100000 in
set_option maxHeartbeats 800000 in
theorem cmdOf_del (w : World) : Calls Tryd.prog 69 #[.int .i64 3] w fun e w' => e = .returned (.int .i64 3) ∧ w' = w := by
  go_enter Tryd.func69, Tryd.ntmps69
  go_wp2
  go_ret
  exact ⟨rfl, rfl⟩

abbrev keyA : ByteArray := ⟨#[97]⟩
set_option maxRecDepth 100000 in
set_option maxHeartbeats 800000 in
theorem key_a (w : World) : Calls Tryd.prog 100 #[.string keyA] w fun e w' => e = .returned (.bool true) ∧ w' = w := by
  go_enter Tryd.func100, Tryd.ntmps100
  go_wp2
  go_loopg [7] 1 (fun gk i wr => ∃ (k : Nat), k ≤ 1 ∧ gk = 1 - k ∧ i = .int .i64 k ∧ wr = w)
  case atStart => exact ⟨0, by omega, rfl, rfl, rfl⟩
  case round =>
    obtain ⟨k, hk, rfl, rfl, rfl⟩ := hrel
    by_cases h : k = 0
    · subst h
      go_wp2
      go_roundg 0
      case rel => exact ⟨1, by omega, rfl, by go_num, rfl⟩
      case measure => omega
    · obtain rfl : k = 1 := by omega
      go_wp2
      go_ret
      exact ⟨rfl, rfl⟩
end Go.Proofs.YtmncocmeafcpfaaDoor

/- Regions that draw their order: many operations that read are taken at once. -/
namespace Go.Proofs.YtmncocmeafcpfaaDoor
open Go.RowKit Go.Deep

section
variable {P : Program} {md : Region.Mode} {ops : Array Oper} {Q : Exit → Act → World → Prop} {S : World → Prop}
/-- these may be taken first, in this order -/
def takeB (md : Region.Mode) (ops : Array Oper) : List Nat → Array Bool → Bool
  | [], _ => true
  | i :: is, listed => (Region.ready md ops listed).contains i && (Region.free md ops listed i && takeB md ops is (listed.setIfInBounds i true))
def mark : List Nat → Array Bool → Array Bool
  | [], listed => listed
  | i :: is, listed => mark is (listed.setIfInBounds i true)
/-- each of these yields its value in every world of which S holds -/
def wpTake (P : Program) (ops : Array Oper) (S : World → Prop) (K : Act → Prop) : List Nat → Act → Prop
  | [], a => K a
  | i :: is, a => ∃ o v, ops[i]? = some o ∧ YieldsIf P ops S o v a ∧ wpTake P ops S K is (a.put o.dst v)
theorem wpTake_cons {K : Act → Prop} {i : Nat} {is : List Nat} {o : Oper} {v : Value} {a : Act} (hi : ops[i]? = some o) (hy : YieldsIf P ops S o v a) (h : wpTake P ops S K is (a.put o.dst v)) : wpTake P ops S K (i :: is) a := ⟨o, v, hi, hy, h⟩
theorem wpTake_nil {K : Act → Prop} {a : Act} (h : K a) : wpTake P ops S K [] a := h
theorem wpAnyH_takes {w : World} (hs : Region.noSelect ops = true) (hQ : ∀ d v c a w, Q (.panic c) (a.put d v) w → Q (.panic c) a w) (hS : S w) :
    ∀ (is : List Nat) (fuel : Nat) (listed : Array Bool) (a : Act), takeB md ops is listed = true → wpTake P ops S (fun a' => wpAnyH P md ops Q S fuel (mark is listed) a' w) is a → wpAnyH P md ops Q S (fuel + is.length) listed a w
  | [], fuel, listed, a, _, h => h
  | i :: is, fuel, listed, a, hB, h => by
    obtain ⟨o, v, hi, hy, h⟩ := h
    simp only [takeB, Bool.and_eq_true] at hB
    show wpAnyH P md ops Q S ((fuel + is.length) + 1) listed a w
    exact wpAnyH_take hi hs hB.2.1 hB.1 (fun c a w => hQ _ _ c a w) hy hS (wpAnyH_takes hs hQ hS is fuel _ _ hB.2.2 h)
/-- an operation without what it waits for -/
def bare (o : Oper) : Oper := { o with after := #[], pos := "" }
theorem exec_bare (ev : Operand → Value) (o : Oper) : execOp ev (bare o) = execOp ev o := by cases o; rfl
/-- as wpTake, of operations written out -/
def wpTk (P : Program) (S : World → Prop) (K : Act → Prop) : List Oper → Act → Prop
  | [], a => K a
  | o :: l, a => ∃ v, (∀ w, S w → (execOp a.eval o).run P w = .ok (.value v) w) ∧ wpTk P S K l (a.put o.dst v)
theorem wpTk_cons {K : Act → Prop} {o : Oper} {l : List Oper} {a : Act} (v : Value) (hy : ∀ w, S w → (execOp a.eval o).run P w = .ok (.value v) w) (h : wpTk P S K l (a.put o.dst v)) : wpTk P S K (o :: l) a := ⟨v, hy, h⟩
theorem wpTk_nil {K : Act → Prop} {a : Act} (h : K a) : wpTk P S K [] a := h
theorem wpTake_of_tk {K : Act → Prop} : ∀ (is : List Nat) (os : List Oper) (a : Act), is.map (fun i => (ops[i]?).map bare) = os.map some → os.all (·.guard.isNone) = true → wpTk P S K os a → wpTake P ops S K is a
  | [], [], a, _, _, h => h
  | [], _ :: _, _, h, _, _ => by cases h
  | _ :: _, [], _, h, _, _ => by cases h
  | i :: is, o :: os, a, h, hg, hw => by
    simp only [List.map_cons, List.cons.injEq] at h
    obtain ⟨h1, h2⟩ := h
    obtain ⟨o', ho', rfl⟩ := Option.map_eq_some_iff.1 h1
    simp only [List.all_cons, Bool.and_eq_true, Option.isNone_iff_eq_none] at hg
    obtain ⟨v, hy, hw⟩ := hw
    have hgo : o'.guard = none := hg.1
    refine ⟨o', v, ho', Or.inl ⟨by unfold Region.wanted; rw [hgo], fun w hS => ?_⟩, wpTake_of_tk is os _ h2 hg.2 hw⟩
    have := hy w hS
    rwa [exec_bare] at this
theorem wpAnyH_tk {w : World} (hs : Region.noSelect ops = true) (hQ : ∀ d v c a w, Q (.panic c) (a.put d v) w → Q (.panic c) a w) (hS : S w)
    (is : List Nat) (os : List Oper) (fuel : Nat) (listed : Array Bool) (a : Act) (ho : is.map (fun i => (ops[i]?).map bare) = os.map some) (hg : os.all (·.guard.isNone) = true) (hB : takeB md ops is listed = true)
    (h : ∀ K : Act → Prop, Shut (∀ a', wpAnyH P md ops Q S fuel (mark is listed) a' w → K a') → wpTk P S K os a) : wpAnyH P md ops Q S (fuel + is.length) listed a w :=
  wpAnyH_takes hs hQ hS is fuel listed a hB (wpTake_of_tk is os a ho hg (h _ (fun _ h => h)))
theorem act_put (a : Act) (d : Nat) (v : Value) (hd : d < a.tmps.size) : (a.put (some d) v).tmps.size = a.tmps.size ∧ (a.put (some d) v).defers = a.defers ∧ (a.put (some d) v).eval (.tmp d) = v ∧ ∀ t, t ≠ d → (a.put (some d) v).eval (.tmp t) = a.eval (.tmp t) := by
  refine ⟨by simp [Act.put], rfl, ?_, fun t ht => ?_⟩
  · show (a.tmps.setIfInBounds d v).getD d undef = v
    simp [hd]
  · show (a.tmps.setIfInBounds d v).getD t undef = a.tmps.getD t undef
    simp [Array.getElem?_setIfInBounds_ne (fun e => ht e.symm)]
theorem wpTk_step {K : Act → Prop} {o : Oper} {l : List Oper} {a : Act} (d : Nat) (v : Value) (ho : o.dst = some d) (hd : d < a.tmps.size) (hy : ∀ w, S w → (execOp a.eval o).run P w = .ok (.value v) w)
    (h : ∀ a' : Act, a'.tmps.size = a.tmps.size → a'.defers = a.defers → a'.eval (.tmp d) = v → (∀ t, t ≠ d → a'.eval (.tmp t) = a.eval (.tmp t)) → wpTk P S K l a') : wpTk P S K (o :: l) a := by
  obtain ⟨h1, h2, h3, h4⟩ := act_put a d v hd
  exact ⟨v, hy, by rw [ho]; exact h _ h1 h2 h3 h4⟩
theorem wp_bare (o : Oper) (a : Act) (w : World) (K : Act → World → Prop) : Oper.wp P (bare o) a w K Q = Oper.wp P o a w K Q := by cases o; rfl
/-- the one operation that may come up is run -/
theorem wpAnyH_one {i fuel : Nat} {listed : Array Bool} {a : Act} {w : World} (o : Oper) (hr : Region.ready md ops listed = [i]) (ho : (ops[i]?).map bare = some o) (hg : o.guard = none)
    (h : ∀ K' : Act → World → Prop, Shut (∀ a' w', S w' → wpAnyH P md ops Q S fuel (listed.setIfInBounds i true) a' w' → K' a' w') → Oper.wp P o a w K' Q) : wpAnyH P md ops Q S (fuel + 1) listed a w := by
  obtain ⟨o', ho', rfl⟩ := Option.map_eq_some_iff.1 ho
  refine wpAnyH_ready hr (by simp) (AllReadyH.cons ho' (fun K' hK => ?_) AllReadyH.nil)
  have hgo : o'.guard = none := hg
  rw [if_pos (by unfold Region.wanted; rw [hgo])]
  have := h K' (fun a' w' hS hW => hK.out a' w' hS (fun _ => hW))
  rwa [wp_bare] at this
/-- the one operation that may come up yields v -/
theorem wpAnyH_run {i fuel : Nat} {listed : Array Bool} {a : Act} {w : World} (o : Oper) (d : Option Tmp) (v : Value) (w1 : World) (hr : Region.ready md ops listed = [i]) (ho : (ops[i]?).map bare = some o) (hg : o.guard = none) (hd : o.dst = d)
    (hrun : (execOp a.eval o).run P w = .ok (.value v) w1) (hS : S w1) (h : wpAnyH P md ops Q S fuel (listed.setIfInBounds i true) (a.put d v) w1) : wpAnyH P md ops Q S (fuel + 1) listed a w := by
  refine wpAnyH_one o hr ho hg (fun K' hK => ?_)
  unfold Oper.wp
  rw [hrun, Oper.upon_value, hd]
  exact hK.out _ _ hS h
theorem wpAnyH_skip {i fuel : Nat} {listed : Array Bool} {a : Act} {w : World} (o : Oper) (w1 : World) (hr : Region.ready md ops listed = [i]) (ho : (ops[i]?).map bare = some o) (hg : o.guard = none) (hd : o.dst = none)
    (hrun : (execOp a.eval o).run P w = .ok .skip w1) (hS : S w1) (h : wpAnyH P md ops Q S fuel (listed.setIfInBounds i true) a w1) : wpAnyH P md ops Q S (fuel + 1) listed a w := by
  refine wpAnyH_one o hr ho hg (fun K' hK => ?_)
  unfold Oper.wp
  rw [hrun, Oper.upon_skip, hd]
  exact hK.out _ _ hS h
/-- one of two operations comes up -/
theorem wpAnyH_two {i j fuel : Nat} {listed : Array Bool} {a : Act} {w : World} (o : Oper) (o2 : Oper) (hr : Region.ready md ops listed = [i, j]) (ho : (ops[i]?).map bare = some o) (ho2 : (ops[j]?).map bare = some o2) (hg : o.guard = none) (hg2 : o2.guard = none)
    (h : ∀ K' : Act → World → Prop, Shut (∀ a' w', S w' → wpAnyH P md ops Q S fuel (listed.setIfInBounds i true) a' w' → K' a' w') → Oper.wp P o a w K' Q)
    (h2 : ∀ K' : Act → World → Prop, Shut (∀ a' w', S w' → wpAnyH P md ops Q S fuel (listed.setIfInBounds j true) a' w' → K' a' w') → Oper.wp P o2 a w K' Q) : wpAnyH P md ops Q S (fuel + 1) listed a w := by
  obtain ⟨o', ho', rfl⟩ := Option.map_eq_some_iff.1 ho
  obtain ⟨o2', ho2', rfl⟩ := Option.map_eq_some_iff.1 ho2
  have hgo : o'.guard = none := hg
  have hgo2 : o2'.guard = none := hg2
  refine wpAnyH_ready hr (by simp) (AllReadyH.cons ho' (fun K' hK => ?_) (AllReadyH.cons ho2' (fun K' hK => ?_) AllReadyH.nil))
  · rw [if_pos (by unfold Region.wanted; rw [hgo])]
    have := h K' (fun a' w' hS hW => hK.out a' w' hS (fun _ => hW))
    rwa [wp_bare] at this
  · rw [if_pos (by unfold Region.wanted; rw [hgo2])]
    have := h2 K' (fun a' w' hS hW => hK.out a' w' hS (fun _ => hW))
    rwa [wp_bare] at this
theorem wp_value {o : Oper} {a : Act} {w w1 : World} {K : Act → World → Prop} {v : Value} (hrun : (execOp a.eval o).run P w = .ok (.value v) w1) (h : K (a.put o.dst v) w1) : Oper.wp P o a w K Q := by
  unfold Oper.wp
  rw [hrun, Oper.upon_value]
  exact h
end
end Go.Proofs.YtmncocmeafcpfaaDoor

/- Regions that draw their order: guarded operations that are wanted; calls. (Over Tk.) -/
namespace Go.Proofs.YtmncocmeafcpfaaDoor
open Go.RowKit Go.Deep

section
variable {P : Program} {md : Region.Mode} {ops : Array Oper} {Q : Exit → Act → World → Prop} {S : World → Prop}
theorem yielded_of {a : Act} {j d : Nat} {b : Bool} {oj : Oper} (hj : (ops[j]?).map bare = some oj) (hd : oj.dst = some d) (he : a.eval (.tmp d) = .bool b) (hs : d < a.tmps.size) : yielded ops a.tmps j = some b := by
  obtain ⟨o', ho', rfl⟩ := Option.map_eq_some_iff.1 hj
  have hd' : o'.dst = some d := hd
  have he' : a.tmps[d]? = some (.bool b) := by
    have h2 : a.tmps.getD d undef = .bool b := he
    rw [Array.getD_eq_getD_getElem?, Array.getElem?_eq_getElem hs] at h2
    rw [Array.getElem?_eq_getElem hs]
    exact congrArg some h2
  unfold yielded
  rw [ho']
  simp [hd', he']
theorem wanted_none {o : Oper} {f : Nat → Option Bool} (h : o.guard = none) : Region.wanted o f = true := by unfold Region.wanted; rw [h]
theorem wanted_some {o : Oper} {f : Nat → Option Bool} {j : Nat} {b : Bool} (h : o.guard = some (j, b)) (hf : f j = some b) : Region.wanted o f = true := by unfold Region.wanted; rw [h]; simp [hf]
/-- a quiet operation is taken -/
theorem wpTake_stepE {K : Act → Prop} {i : Nat} {is : List Nat} {a : Act} (o : Oper) (d : Nat) (v : Value) (ho : (ops[i]?).map bare = some o) (hd : o.dst = some d) (hl : d < a.tmps.size) (hg : Region.wanted o (yielded ops a.tmps) = true)
    (hy : ∀ w, S w → (execOp a.eval o).run P w = .ok (.value v) w)
    (h : ∀ a' : Act, a' = a.put (some d) v → a'.tmps.size = a.tmps.size → a'.defers = a.defers → a'.eval (.tmp d) = v → (∀ t, t ≠ d → a'.eval (.tmp t) = a.eval (.tmp t)) → wpTake P ops S K is a') : wpTake P ops S K (i :: is) a := by
  obtain ⟨o', ho', rfl⟩ := Option.map_eq_some_iff.1 ho
  obtain ⟨h1, h2, h3, h4⟩ := act_put a d v hl
  refine ⟨o', v, ho', Or.inl ⟨?_, fun w hS => ?_⟩, ?_⟩
  · have : Region.wanted (bare o') (yielded ops a.tmps) = Region.wanted o' (yielded ops a.tmps) := by cases o'; rfl
    rw [← this]; exact hg
  · have := hy w hS
    rwa [exec_bare] at this
  · have hd' : o'.dst = some d := hd
    rw [hd']
    exact h _ rfl h1 h2 h3 h4
/-- the one operation that may come up, guarded and wanted, is run -/
theorem wpAnyH_oneG {i fuel : Nat} {listed : Array Bool} {a : Act} {w : World} (o : Oper) (hr : Region.ready md ops listed = [i]) (ho : (ops[i]?).map bare = some o) (hg : Region.wanted o (yielded ops a.tmps) = true)
    (h : ∀ K' : Act → World → Prop, Shut (∀ a' w', S w' → wpAnyH P md ops Q S fuel (listed.setIfInBounds i true) a' w' → K' a' w') → Oper.wp P o a w K' Q) : wpAnyH P md ops Q S (fuel + 1) listed a w := by
  obtain ⟨o', ho', rfl⟩ := Option.map_eq_some_iff.1 ho
  refine wpAnyH_ready hr (by simp) (AllReadyH.cons ho' (fun K' hK => ?_) AllReadyH.nil)
  have e : Region.wanted (bare o') (yielded ops a.tmps) = Region.wanted o' (yielded ops a.tmps) := by cases o'; rfl
  rw [e] at hg
  rw [if_pos hg]
  have := h K' (fun a' w' hS hW => hK.out a' w' hS (fun _ => hW))
  rwa [wp_bare] at this
/-- a call, by its contract -/
theorem wp_enter {o : Oper} {a : Act} {w : World} {K : Act → World → Prop} {f : FuncId} {args : Array Value} {R : Ending → World → Prop} (hrun : (execOp a.eval o).run P w = .ok (.enter f args) w) (hc : Calls P f args w R)
    (h : ∀ e w', R e w' → ∃ v, e = .returned v ∧ K (a.put o.dst v) w') : Oper.wp P o a w K Q := by
  unfold Oper.wp
  rw [hrun, Oper.upon_enter]
  refine hc.mono ?_
  intro e w' hR
  obtain ⟨v, rfl, hk⟩ := h e w' hR
  exact hk
theorem enter_run {ev : Operand → Value} {g : Option (Nat × Bool)} {d : Option Tmp} {fn : FuncId} {xs : Array Operand} {ts : Array TypeId} {ty : TypeId} {z : World} (args : Array Value) (hf : ev (.func fn) = .func (.func fn) #[] #[]) (ha : xs.map ev = args) (hE : ∀ u : World, (callFunc fn args).run Tryd.prog u = .ok (.enter fn args) u) :
    (execOp ev ⟨d, Op.call { callee := Callee.value (Operand.func fn), args := xs, argTypes := ts }, ty, "", #[], g⟩).run Tryd.prog z = .ok (.enter fn args) z := by
  unfold execOp
  simp only [resolve, hf, ha]
  simp [invoke, Deferred.ofValue, hE]
end
end Go.Proofs.YtmncocmeafcpfaaDoor
