/- Texts of this proof, joined: MgAK, MgAL, MgAM. -/
import Derived.Test.YtmooddbhcccicaaGreatDoorMgAG
import Derived.Test.YtmooddbhcccicaaGreatDoorMgAH
import Derived.Test.YtmooddbhcccicaaGreatDoorMgAJ
import Derived.Test.YtmooddbhcccicaaGreatDoorMgAA
import Derived.Test.YtmooddbhcccicaaGreatDoorMgAD
import Derived.Lib.SmallJoins
/- Texts of this proof, joined: An, Tk. -/
/- A ring's plate: read, write, sync, sector. -/
namespace Go.Proofs.YtmooddbhcccicaaGreatDoor
set_option linter.unusedVariables false
set_option linter.unusedSimpArgs false
open Go.RowKit Go.Deep

abbrev ringV (b : Nat) (s : Int) : Value := .agg #[.pointer (some ⟨b, 0, none⟩), .int .i64 s]
theorem Pt.keep0 {w w' : World} {b d m n q : Nat} {dur : List Nat} {T : Nat → Option (List Nat)} (h : Pt w b d m n q dur T) (k : Kp (fun _ => False) w w') : Pt w' b d m n q dur T := h.keep k id id id

set_option maxRecDepth 100000 in
set_option maxHeartbeats 800000 in
theorem rread_ok {w : World} {b d m n q : Nat} {dur : List Nat} {T : Nat → Option (List Nat)} (h : Pt w b d m n q dur T) (s : Int) (i : Nat) (hi : (i : Int) < (n : Int)) :
    Calls Tryz.prog 190 #[ringV b s, .int .i64 (i : Int)] w fun e w' => ∃ g c, w.heap.size ≤ g ∧ 64 ≤ c ∧ e = .returned (.tuple #[.slice (some ⟨g, 0, none⟩) 64 c, .nilIface]) ∧ Kp (fun _ => False) w w' ∧ Rb w' (some ⟨g, 0, none⟩) 64 (nowOf dur T i) := by
  obtain ⟨r, hr⟩ : ∃ r, r = w.heap.size := ⟨_, rfl⟩
  obtain ⟨w0, hw0⟩ : ∃ y, y = w.alloc (.cells #[.pointer (some ⟨b, 0, none⟩), .int .i64 s] 153) := ⟨_, rfl⟩
  have HL0 : Lv w0 r [.pointer (some ⟨b, 0, none⟩), .int .i64 s] := by rw [hw0, hr]; exact Lv.new w _ _
  have q0 := HL0.cell (j := 0) rfl
  have HK0 : Hid (Kp (fun _ => False) w w0) := by rw [hw0]; exact (Kp.refl _ _).alloc _
  have HR : Hid (Calls _ _ _ w0 _) := read_ok (h.keep0 HK0.out) i hi
  clear h hi HL0
  go_enter Tryz.func190, Tryz.ntmps190
  go_upto_region 1 with fail
  rw [← hw0, ← hr]
  clear hw0 hr
  go_wp2_with fail
  refine HR.out.mono ?_
  rintro e9 w1 ⟨v, rfl, k1, o1, s1⟩
  have HK1 : Hid (Kp (fun _ => False) w w1) := HK0.out.trans k1 (fun _ _ e => e)
  obtain ⟨g, c, rfl, hg, hc, rb⟩ : ∃ g c, v = .slice (some ⟨g, 0, none⟩) 64 c ∧ w.heap.size ≤ g ∧ 64 ≤ c ∧ Rb w1 (some ⟨g, 0, none⟩) 64 (nowOf dur T i) := by
    rcases o1.2 with ⟨rfl, h0⟩ | ⟨g, cap, cur, rfl, hb, hh, hn, _, hcs, htk⟩
    · have := s1.1; omega
    · obtain ⟨p, c, e, h1, h2, h3⟩ := o1.rb s1.2
      have e' := e
      simp only [Value.slice.injEq] at e'
      obtain ⟨rfl, _, rfl⟩ := e'
      have := HK0.out.size
      rw [s1.1] at h1 h2
      exact ⟨g, cap, by rw [s1.1], by omega, h1, h2⟩
  have HF : Hid (w.heap.size ≤ g ∧ 64 ≤ c ∧ Rb w1 (some ⟨g, 0, none⟩) 64 (nowOf dur T i)) := ⟨hg, hc, rb⟩
  clear k1 o1 s1 HR hg hc rb
  go_wp2_with fail
  refine (fault_nil _ w1).mono ?_
  rintro e9 w9 ⟨rfl, hw9⟩
  have hw8 := hw9.symm
  subst hw8
  clear hw9
  go_wp2
  go_ret2
  exact ⟨g, c, HF.out.1, HF.out.2.1, rfl, HK1.out, HF.out.2.2⟩

set_option maxRecDepth 100000 in
set_option maxHeartbeats 800000 in
theorem rwrite_ok {w : World} {b d m n q : Nat} {dur : List Nat} {T : Nat → Option (List Nat)} (h : Pt w b d m n q dur T) (hq : (q : Int) < 9223372036854775807) (s : Int) (i : Nat) (hi : (i : Int) < (n : Int)) (g o c : Nat) (xs : List Nat) (hx : Rb w (some ⟨g, o, none⟩) 64 xs) :
    Calls Tryz.prog 166 #[ringV b s, .int .i64 (i : Int), .slice (some ⟨g, o, none⟩) 64 c] w fun e w' => e = .returned .nilIface ∧ Kp (fun x => x = m) w w' ∧ Pt w' b d m n (q + 1) dur (fun j => if j = i then some xs else T j) := by
  obtain ⟨r, hr⟩ : ∃ r, r = w.heap.size := ⟨_, rfl⟩
  obtain ⟨w0, hw0⟩ : ∃ y, y = w.alloc (.cells #[.pointer (some ⟨b, 0, none⟩), .int .i64 s] 153) := ⟨_, rfl⟩
  have HL0 : Lv w0 r [.pointer (some ⟨b, 0, none⟩), .int .i64 s] := by rw [hw0, hr]; exact Lv.new w _ _
  have q0 := HL0.cell (j := 0) rfl
  have HK0 : Hid (Kp (fun _ => False) w w0) := by rw [hw0]; exact (Kp.refl _ _).alloc _
  have HR : Hid (Calls _ _ _ w0 _) := write_ok (h.keep0 HK0.out) hq i hi g o c xs (hx.keep0 HK0.out)
  clear h hi HL0 hx hq
  go_enter Tryz.func166, Tryz.ntmps166
  go_upto_region 1 with fail
  rw [← hw0, ← hr]
  clear hw0 hr
  go_wp2_with fail
  refine HR.out.mono ?_
  rintro e9 w1 ⟨rfl, k1, p1⟩
  have HF : Hid (Kp (fun x => x = m) w w1 ∧ Pt w1 b d m n (q + 1) dur (fun j => if j = i then some xs else T j)) := ⟨(HK0.out.mono (fun _ _ e => e.elim)).trans k1 (fun _ _ e => e), p1⟩
  clear k1 p1 HR
  go_wp2_with fail
  refine (fault_nil _ w1).mono ?_
  rintro e9 w9 ⟨rfl, hw9⟩
  have hw8 := hw9.symm
  subst hw8
  clear hw9
  go_wp2
  go_ret
  exact ⟨rfl, HF.out⟩

set_option maxRecDepth 100000 in
set_option maxHeartbeats 800000 in
theorem rsync_ok {w : World} {b d m n q : Nat} {dur : List Nat} {T : Nat → Option (List Nat)} (h : Pt w b d m n q dur T) (s : Int) :
    Calls Tryz.prog 95 #[ringV b s] w fun e w' => e = .returned .nilIface ∧ Kp (fun x => x = d ∨ x = m) w w' ∧ Pt w' b d m n 0 (durAll dur T n) (fun _ => none) := by
  obtain ⟨r, hr⟩ : ∃ r, r = w.heap.size := ⟨_, rfl⟩
  obtain ⟨w0, hw0⟩ : ∃ y, y = w.alloc (.cells #[.pointer (some ⟨b, 0, none⟩), .int .i64 s] 153) := ⟨_, rfl⟩
  have HL0 : Lv w0 r [.pointer (some ⟨b, 0, none⟩), .int .i64 s] := by rw [hw0, hr]; exact Lv.new w _ _
  have q0 := HL0.cell (j := 0) rfl
  have HK0 : Hid (Kp (fun _ => False) w w0) := by rw [hw0]; exact (Kp.refl _ _).alloc _
  have HR : Hid (Calls _ _ _ w0 _) := sync_ok (h.keep0 HK0.out)
  clear h HL0
  go_enter Tryz.func95, Tryz.ntmps95
  go_upto_region 1 with fail
  rw [← hw0, ← hr]
  clear hw0 hr
  go_wp2_with fail
  refine HR.out.mono ?_
  rintro e9 w1 ⟨rfl, k1, p1⟩
  have HF : Hid (Kp (fun x => x = d ∨ x = m) w w1 ∧ Pt w1 b d m n 0 (durAll dur T n) (fun _ => none)) := ⟨(HK0.out.mono (fun _ _ e => e.elim)).trans k1 (fun _ _ e => e), p1⟩
  clear k1 p1 HR
  go_wp2_with fail
  refine (fault_nil _ w1).mono ?_
  rintro e9 w9 ⟨rfl, hw9⟩
  have hw8 := hw9.symm
  subst hw8
  clear hw9
  go_wp2
  go_ret
  exact ⟨rfl, HF.out⟩

set_option maxRecDepth 100000 in
set_option maxHeartbeats 800000 in
theorem rsector_ok (b s p : Nat) (w : World) (hs : 1 ≤ s) (hs2 : (s : Int) ≤ 8192) (hp : (p : Int) ≤ 1000000000000000000) :
    Calls Tryz.prog 167 #[ringV b (s : Int), .int .i64 (p : Int)] w fun e w' => e = .returned (.int .i64 ((2 + p % s : Nat) : Int)) ∧ Kp (fun _ => False) w w' := by
  obtain ⟨r, hr⟩ : ∃ r, r = w.heap.size := ⟨_, rfl⟩
  obtain ⟨w0, hw0⟩ : ∃ y, y = w.alloc (.cells #[.pointer (some ⟨b, 0, none⟩), .int .i64 (s : Int)] 153) := ⟨_, rfl⟩
  have HL0 : Lv w0 r [.pointer (some ⟨b, 0, none⟩), .int .i64 (s : Int)] := by rw [hw0, hr]; exact Lv.new w _ _
  have q1 := HL0.cell (j := 1) rfl
  have HK0 : Hid (Kp (fun _ => False) w w0) := by rw [hw0]; exact (Kp.refl _ _).alloc _
  obtain ⟨k, hk⟩ : ∃ k, k = p % s := ⟨_, rfl⟩
  have hkl : k < s := by rw [hk]; exact Nat.mod_lt _ hs
  have hm1 : (p : Int).tmod (s : Int) = (k : Int) := by rw [hk, Int.tmod_eq_emod_of_nonneg (by omega)]; norm_cast
  have hs0 : ((s : Int) == 0) = false := by rw [beq_eq_false_iff_ne]; omega
  have hs1 : ¬ (s : Int) = 0 := by omega
  have hw1 : wrap64 (k : Int) = (k : Int) := by unfold wrap64; omega
  have hw2 : wrap64 (2 + (k : Int)) = 2 + (k : Int) := by unfold wrap64; omega
  rw [← hk]
  clear HL0 hk
  go_enter Tryz.func167, Tryz.ntmps167
  go_upto_region 1 with fail
  rw [← hw0, ← hr]
  clear hw0 hr
  go_wp2
  go_ret
  exact ⟨by simp, HK0.out⟩
end Go.Proofs.YtmooddbhcccicaaGreatDoor

/- Regions that draw their order: many operations that read are taken at once. -/
namespace Go.Proofs.YtmooddbhcccicaaGreatDoor
open Go.RowKit Go.Deep

section
variable {P : Program} {md : Region.Mode} {ops : Array Oper} {Q : Exit → Act → World → Prop} {S : World → Prop}
/-- these may be taken first, in this order -/
def takeB (md : Region.Mode) (ops : Array Oper) : List Nat → Array Bool → Bool
  | [], _ => true
  | i :: is, listed => (Region.ready md ops listed).contains i && (Region.free md ops listed i && takeB md ops is (listed.setIfInBounds i true))
def mark : List Nat → Array Bool → Array Bool
  | [], listed => listed
  | i :: is, listed => mark is (listed.setIfInBounds i true)
/-- each of these yields its value in every world of which S holds -/
def wpTake (P : Program) (ops : Array Oper) (S : World → Prop) (K : Act → Prop) : List Nat → Act → Prop
  | [], a => K a
  | i :: is, a => ∃ o v, ops[i]? = some o ∧ YieldsIf P ops S o v a ∧ wpTake P ops S K is (a.put o.dst v)
theorem wpTake_cons {K : Act → Prop} {i : Nat} {is : List Nat} {o : Oper} {v : Value} {a : Act} (hi : ops[i]? = some o) (hy : YieldsIf P ops S o v a) (h : wpTake P ops S K is (a.put o.dst v)) : wpTake P ops S K (i :: is) a := ⟨o, v, hi, hy, h⟩
theorem wpTake_nil {K : Act → Prop} {a : Act} (h : K a) : wpTake P ops S K [] a := h
theorem wpAnyH_takes {w : World} (hs : Region.noSelect ops = true) (hQ : ∀ d v c a w, Q (.panic c) (a.put d v) w → Q (.panic c) a w) (hS : S w) :
    ∀ (is : List Nat) (fuel : Nat) (listed : Array Bool) (a : Act), takeB md ops is listed = true → wpTake P ops S (fun a' => wpAnyH P md ops Q S fuel (mark is listed) a' w) is a → wpAnyH P md ops Q S (fuel + is.length) listed a w
  | [], fuel, listed, a, _, h => h
  | i :: is, fuel, listed, a, hB, h => by
    obtain ⟨o, v, hi, hy, h⟩ := h
    simp only [takeB, Bool.and_eq_true] at hB
    show wpAnyH P md ops Q S ((fuel + is.length) + 1) listed a w
    exact wpAnyH_take hi hs hB.2.1 hB.1 (fun c a w => hQ _ _ c a w) hy hS (wpAnyH_takes hs hQ hS is fuel _ _ hB.2.2 h)
/-- an operation without what it waits for -/
def bare (o : Oper) : Oper := { o with after := #[], pos := "" }
theorem exec_bare (ev : Operand → Value) (o : Oper) : execOp ev (bare o) = execOp ev o := by cases o; rfl
/-- as wpTake, of operations written out -/
def wpTk (P : Program) (S : World → Prop) (K : Act → Prop) : List Oper → Act → Prop
  | [], a => K a
  | o :: l, a => ∃ v, (∀ w, S w → (execOp a.eval o).run P w = .ok (.value v) w) ∧ wpTk P S K l (a.put o.dst v)
theorem wpTk_cons {K : Act → Prop} {o : Oper} {l : List Oper} {a : Act} (v : Value) (hy : ∀ w, S w → (execOp a.eval o).run P w = .ok (.value v) w) (h : wpTk P S K l (a.put o.dst v)) : wpTk P S K (o :: l) a := ⟨v, hy, h⟩
theorem wpTk_nil {K : Act → Prop} {a : Act} (h : K a) : wpTk P S K [] a := h
theorem wpTake_of_tk {K : Act → Prop} : ∀ (is : List Nat) (os : List Oper) (a : Act), is.map (fun i => (ops[i]?).map bare) = os.map some → os.all (·.guard.isNone) = true → wpTk P S K os a → wpTake P ops S K is a
  | [], [], a, _, _, h => h
  | [], _ :: _, _, h, _, _ => by cases h
  | _ :: _, [], _, h, _, _ => by cases h
  | i :: is, o :: os, a, h, hg, hw => by
    simp only [List.map_cons, List.cons.injEq] at h
    obtain ⟨h1, h2⟩ := h
    obtain ⟨o', ho', rfl⟩ := Option.map_eq_some_iff.1 h1
    simp only [List.all_cons, Bool.and_eq_true, Option.isNone_iff_eq_none] at hg
    obtain ⟨v, hy, hw⟩ := hw
    have hgo : o'.guard = none := hg.1
    refine ⟨o', v, ho', Or.inl ⟨by unfold Region.wanted; rw [hgo], fun w hS => ?_⟩, wpTake_of_tk is os _ h2 hg.2 hw⟩
    have := hy w hS
    rwa [exec_bare] at this
theorem wpAnyH_tk {w : World} (hs : Region.noSelect ops = true) (hQ : ∀ d v c a w, Q (.panic c) (a.put d v) w → Q (.panic c) a w) (hS : S w)
    (is : List Nat) (os : List Oper) (fuel : Nat) (listed : Array Bool) (a : Act) (ho : is.map (fun i => (ops[i]?).map bare) = os.map some) (hg : os.all (·.guard.isNone) = true) (hB : takeB md ops is listed = true)
    (h : ∀ K : Act → Prop, Shut (∀ a', wpAnyH P md ops Q S fuel (mark is listed) a' w → K a') → wpTk P S K os a) : wpAnyH P md ops Q S (fuel + is.length) listed a w :=
  wpAnyH_takes hs hQ hS is fuel listed a hB (wpTake_of_tk is os a ho hg (h _ (fun _ h => h)))
theorem act_put (a : Act) (d : Nat) (v : Value) (hd : d < a.tmps.size) : (a.put (some d) v).tmps.size = a.tmps.size ∧ (a.put (some d) v).defers = a.defers ∧ (a.put (some d) v).eval (.tmp d) = v ∧ ∀ t, t ≠ d → (a.put (some d) v).eval (.tmp t) = a.eval (.tmp t) := by
  refine ⟨by simp [Act.put], rfl, ?_, fun t ht => ?_⟩
  · show (a.tmps.setIfInBounds d v).getD d undef = v
    simp [hd]
  · show (a.tmps.setIfInBounds d v).getD t undef = a.tmps.getD t undef
    simp [Array.getElem?_setIfInBounds_ne (fun e => ht e.symm)]
theorem wpTk_step {K : Act → Prop} {o : Oper} {l : List Oper} {a : Act} (d : Nat) (v : Value) (ho : o.dst = some d) (hd : d < a.tmps.size) (hy : ∀ w, S w → (execOp a.eval o).run P w = .ok (.value v) w)
    (h : ∀ a' : Act, a'.tmps.size = a.tmps.size → a'.defers = a.defers → a'.eval (.tmp d) = v → (∀ t, t ≠ d → a'.eval (.tmp t) = a.eval (.tmp t)) → wpTk P S K l a') : wpTk P S K (o :: l) a := by
  obtain ⟨h1, h2, h3, h4⟩ := act_put a d v hd
  exact ⟨v, hy, by rw [ho]; exact h _ h1 h2 h3 h4⟩
theorem wp_bare (o : Oper) (a : Act) (w : World) (K : Act → World → Prop) : Oper.wp P (bare o) a w K Q = Oper.wp P o a w K Q := by cases o; rfl
/-- the one operation that may come up is run -/
theorem wpAnyH_one {i fuel : Nat} {listed : Array Bool} {a : Act} {w : World} (o : Oper) (hr : Region.ready md ops listed = [i]) (ho : (ops[i]?).map bare = some o) (hg : o.guard = none)
    (h : ∀ K' : Act → World → Prop, Shut (∀ a' w', S w' → wpAnyH P md ops Q S fuel (listed.setIfInBounds i true) a' w' → K' a' w') → Oper.wp P o a w K' Q) : wpAnyH P md ops Q S (fuel + 1) listed a w := by
  obtain ⟨o', ho', rfl⟩ := Option.map_eq_some_iff.1 ho
  refine wpAnyH_ready hr (by simp) (AllReadyH.cons ho' (fun K' hK => ?_) AllReadyH.nil)
  have hgo : o'.guard = none := hg
  rw [if_pos (by unfold Region.wanted; rw [hgo])]
  have := h K' (fun a' w' hS hW => hK.out a' w' hS (fun _ => hW))
  rwa [wp_bare] at this
/-- the one operation that may come up yields v -/
theorem wpAnyH_run {i fuel : Nat} {listed : Array Bool} {a : Act} {w : World} (o : Oper) (d : Option Tmp) (v : Value) (w1 : World) (hr : Region.ready md ops listed = [i]) (ho : (ops[i]?).map bare = some o) (hg : o.guard = none) (hd : o.dst = d)
    (hrun : (execOp a.eval o).run P w = .ok (.value v) w1) (hS : S w1) (h : wpAnyH P md ops Q S fuel (listed.setIfInBounds i true) (a.put d v) w1) : wpAnyH P md ops Q S (fuel + 1) listed a w := by
  refine wpAnyH_one o hr ho hg (fun K' hK => ?_)
  unfold Oper.wp
  rw [hrun, Oper.upon_value, hd]
  exact hK.out _ _ hS h
theorem wpAnyH_skip {i fuel : Nat} {listed : Array Bool} {a : Act} {w : World} (o : Oper) (w1 : World) (hr : Region.ready md ops listed = [i]) (ho : (ops[i]?).map bare = some o) (hg : o.guard = none) (hd : o.dst = none)
    (hrun : (execOp a.eval o).run P w = .ok .skip w1) (hS : S w1) (h : wpAnyH P md ops Q S fuel (listed.setIfInBounds i true) a w1) : wpAnyH P md ops Q S (fuel + 1) listed a w := by
  refine wpAnyH_one o hr ho hg (fun K' hK => ?_)
  unfold Oper.wp
  rw [hrun, Oper.upon_skip, hd]
  exact hK.out _ _ hS h
/-- one of two operations comes up -/
theorem wpAnyH_two {i j fuel : Nat} {listed : Array Bool} {a : Act} {w : World} (o : Oper) (o2 : Oper) (hr : Region.ready md ops listed = [i, j]) (ho : (ops[i]?).map bare = some o) (ho2 : (ops[j]?).map bare = some o2) (hg : o.guard = none) (hg2 : o2.guard = none)
    (h : ∀ K' : Act → World → Prop, Shut (∀ a' w', S w' → wpAnyH P md ops Q S fuel (listed.setIfInBounds i true) a' w' → K' a' w') → Oper.wp P o a w K' Q)
    (h2 : ∀ K' : Act → World → Prop, Shut (∀ a' w', S w' → wpAnyH P md ops Q S fuel (listed.setIfInBounds j true) a' w' → K' a' w') → Oper.wp P o2 a w K' Q) : wpAnyH P md ops Q S (fuel + 1) listed a w := by
  obtain ⟨o', ho', rfl⟩ := Option.map_eq_some_iff.1 ho
  obtain ⟨o2', ho2', rfl⟩ := Option.map_eq_some_iff.1 ho2
  have hgo : o'.guard = none := hg
  have hgo2 : o2'.guard = none := hg2
  refine wpAnyH_ready hr (by simp) (AllReadyH.cons ho' (fun K' hK => ?_) (AllReadyH.cons ho2' (fun K' hK => ?_) AllReadyH.nil))
  · rw [if_pos (by unfold Region.wanted; rw [hgo])]
    have := h K' (fun a' w' hS hW => hK.out a' w' hS (fun _ => hW))
    rwa [wp_bare] at this
  · rw [if_pos (by unfold Region.wanted; rw [hgo2])]
    have := h2 K' (fun a' w' hS hW => hK.out a' w' hS (fun _ => hW))
    rwa [wp_bare] at this
theorem wp_value {o : Oper} {a : Act} {w w1 : World} {K : Act → World → Prop} {v : Value} (hrun : (execOp a.eval o).run P w = .ok (.value v) w1) (h : K (a.put o.dst v) w1) : Oper.wp P o a w K Q := by
  unfold Oper.wp
  rw [hrun, Oper.upon_value]
  exact h
end
end Go.Proofs.YtmooddbhcccicaaGreatDoor

/- Texts of this proof, joined: Th, Wm. -/
/- Regions that draw their order: guarded operations that are wanted; calls. (Over Tk.) -/
namespace Go.Proofs.YtmooddbhcccicaaGreatDoor
open Go.RowKit Go.Deep

section
variable {P : Program} {md : Region.Mode} {ops : Array Oper} {Q : Exit → Act → World → Prop} {S : World → Prop}
theorem yielded_of {a : Act} {j d : Nat} {b : Bool} {oj : Oper} (hj : (ops[j]?).map bare = some oj) (hd : oj.dst = some d) (he : a.eval (.tmp d) = .bool b) (hs : d < a.tmps.size) : yielded ops a.tmps j = some b := by
  obtain ⟨o', ho', rfl⟩ := Option.map_eq_some_iff.1 hj
  have hd' : o'.dst = some d := hd
  have he' : a.tmps[d]? = some (.bool b) := by
    have h2 : a.tmps.getD d undef = .bool b := he
    rw [Array.getD_eq_getD_getElem?, Array.getElem?_eq_getElem hs] at h2
    rw [Array.getElem?_eq_getElem hs]
    exact congrArg some h2
  unfold yielded
  rw [ho']
  simp [hd', he']
theorem wanted_none {o : Oper} {f : Nat → Option Bool} (h : o.guard = none) : Region.wanted o f = true := by unfold Region.wanted; rw [h]
theorem wanted_some {o : Oper} {f : Nat → Option Bool} {j : Nat} {b : Bool} (h : o.guard = some (j, b)) (hf : f j = some b) : Region.wanted o f = true := by unfold Region.wanted; rw [h]; simp [hf]
/-- a quiet operation is taken -/
theorem wpTake_stepE {K : Act → Prop} {i : Nat} {is : List Nat} {a : Act} (o : Oper) (d : Nat) (v : Value) (ho : (ops[i]?).map bare = some o) (hd : o.dst = some d) (hl : d < a.tmps.size) (hg : Region.wanted o (yielded ops a.tmps) = true)
    (hy : ∀ w, S w → (execOp a.eval o).run P w = .ok (.value v) w)
    (h : ∀ a' : Act, a' = a.put (some d) v → a'.tmps.size = a.tmps.size → a'.defers = a.defers → a'.eval (.tmp d) = v → (∀ t, t ≠ d → a'.eval (.tmp t) = a.eval (.tmp t)) → wpTake P ops S K is a') : wpTake P ops S K (i :: is) a := by
  obtain ⟨o', ho', rfl⟩ := Option.map_eq_some_iff.1 ho
  obtain ⟨h1, h2, h3, h4⟩ := act_put a d v hl
  refine ⟨o', v, ho', Or.inl ⟨?_, fun w hS => ?_⟩, ?_⟩
  · have : Region.wanted (bare o') (yielded ops a.tmps) = Region.wanted o' (yielded ops a.tmps) := by cases o'; rfl
    rw [← this]; exact hg
  · have := hy w hS
    rwa [exec_bare] at this
  · have hd' : o'.dst = some d := hd
    rw [hd']
    exact h _ rfl h1 h2 h3 h4
/-- the one operation that may come up, guarded and wanted, is run -/
theorem wpAnyH_oneG {i fuel : Nat} {listed : Array Bool} {a : Act} {w : World} (o : Oper) (hr : Region.ready md ops listed = [i]) (ho : (ops[i]?).map bare = some o) (hg : Region.wanted o (yielded ops a.tmps) = true)
    (h : ∀ K' : Act → World → Prop, Shut (∀ a' w', S w' → wpAnyH P md ops Q S fuel (listed.setIfInBounds i true) a' w' → K' a' w') → Oper.wp P o a w K' Q) : wpAnyH P md ops Q S (fuel + 1) listed a w := by
  obtain ⟨o', ho', rfl⟩ := Option.map_eq_some_iff.1 ho
  refine wpAnyH_ready hr (by simp) (AllReadyH.cons ho' (fun K' hK => ?_) AllReadyH.nil)
  have e : Region.wanted (bare o') (yielded ops a.tmps) = Region.wanted o' (yielded ops a.tmps) := by cases o'; rfl
  rw [e] at hg
  rw [if_pos hg]
  have := h K' (fun a' w' hS hW => hK.out a' w' hS (fun _ => hW))
  rwa [wp_bare] at this
/-- a call, by its contract -/
theorem wp_enter {o : Oper} {a : Act} {w : World} {K : Act → World → Prop} {f : FuncId} {args : Array Value} {R : Ending → World → Prop} (hrun : (execOp a.eval o).run P w = .ok (.enter f args) w) (hc : Calls P f args w R)
    (h : ∀ e w', R e w' → ∃ v, e = .returned v ∧ K (a.put o.dst v) w') : Oper.wp P o a w K Q := by
  unfold Oper.wp
  rw [hrun, Oper.upon_enter]
  refine hc.mono ?_
  intro e w' hR
  obtain ⟨v, rfl, hk⟩ := h e w' hR
  exact hk
theorem enter_run {ev : Operand → Value} {g : Option (Nat × Bool)} {d : Option Tmp} {fn : FuncId} {xs : Array Operand} {ts : Array TypeId} {ty : TypeId} {z : World} (args : Array Value) (hf : ev (.func fn) = .func (.func fn) #[] #[]) (ha : xs.map ev = args) (hE : ∀ u : World, (callFunc fn args).run Tryz.prog u = .ok (.enter fn args) u) :
    (execOp ev ⟨d, Op.call { callee := Callee.value (Operand.func fn), args := xs, argTypes := ts }, ty, "", #[], g⟩).run Tryz.prog z = .ok (.enter fn args) z := by
  unfold execOp
  simp only [resolve, hf, ha]
  simp [invoke, Deferred.ofValue, hE]
end
end Go.Proofs.YtmooddbhcccicaaGreatDoor

/- Regions that draw their order, and whose operations only add: whatever order is drawn, each operation's result has what is said of it. -/
namespace Go.Proofs.YtmooddbhcccicaaGreatDoor
set_option linter.unusedVariables false
open Go.RowKit Go.Deep

section
variable {P : Program} {md : Region.Mode} {ops : Array Oper} {Q : Exit → Act → World → Prop}
/-- how many have not come up -/
def leftN (n : Nat) (listed : Array Bool) : Nat := (List.range n).countP (fun i => !listed.getD i true)
theorem countP_lt_of {α : Type} (p q : α → Bool) (l : List α) (h : ∀ x ∈ l, q x = true → p x = true) (x : α) (hx : x ∈ l) (hp : p x = true) (hq : q x = false) : l.countP q < l.countP p := by
  induction l with
  | nil => cases hx
  | cons y l ih =>
    have hle : l.countP q ≤ l.countP p := List.countP_mono_left (fun z hz hqz => h z (List.mem_cons_of_mem _ hz) hqz)
    rcases List.mem_cons.1 hx with e | e
    · subst e
      rw [List.countP_cons_of_neg (by simp [hq]), List.countP_cons_of_pos hp]
      omega
    · have := ih (fun z hz => h z (List.mem_cons_of_mem _ hz)) e
      cases hqy : q y with
      | true => rw [List.countP_cons_of_pos hqy, List.countP_cons_of_pos (h y (List.mem_cons_self ..) hqy)]; omega
      | false =>
        rw [List.countP_cons_of_neg (by simp [hqy])]
        rw [List.countP_cons]
        omega
theorem leftN_set {n i : Nat} {listed : Array Bool} (hi : i < n) (hl : listed.getD i true = false) : leftN n (listed.setIfInBounds i true) < leftN n listed := by
  have hz : i < listed.size := by
    by_cases h : i < listed.size
    · exact h
    · simp [h] at hl
  refine countP_lt_of _ _ _ (fun x _ hx => ?_) i (List.mem_range.2 hi) (by simp only [hl, Bool.not_false]) ?_
  · by_cases e : i = x
    · subst e; simp [hz] at hx
    · simpa [Array.getElem?_setIfInBounds_ne e] using hx
  · simp [hz]
theorem wpAnyH_inv (I : Array Bool → Act → World → Prop)
    (hstep : ∀ listed a w i, I listed a w → i ∈ Region.ready md ops listed → wpOp P ops Q i (fun a' w' => I (listed.setIfInBounds i true) a' w') a w)
    (hend : ∀ listed a w, I listed a w → Region.ready md ops listed = [] → Q .normal a w) :
    ∀ (fuel : Nat) (listed : Array Bool) (a : Act) (w : World), leftN ops.size listed ≤ fuel → I listed a w → wpAnyH P md ops Q (fun _ => True) fuel listed a w := by
  intro fuel
  induction fuel with
  | zero =>
    intro listed a w hf hI
    have hr : Region.ready md ops listed = [] := by
      rw [List.eq_nil_iff_forall_not_mem]
      intro i hi
      obtain ⟨hu, o, ho, _⟩ := mem_ready.1 hi
      have := leftN_set (n := ops.size) (Array.getElem?_eq_some_iff.1 ho).1 hu
      omega
    exact ⟨hr, hend _ _ _ hI hr⟩
  | succ fuel ih =>
    intro listed a w hf hI
    refine ⟨fun hr => hend _ _ _ hI hr, fun i hi => ?_⟩
    obtain ⟨hu, o, ho, _⟩ := mem_ready.1 hi
    have hlt := leftN_set (n := ops.size) (Array.getElem?_eq_some_iff.1 ho).1 hu
    exact wpOp_mono (fun a' w' h => ⟨trivial, ih _ a' w' (by omega) h⟩) (hstep _ _ _ _ hI hi)

/-- what an operation waits for -/
def deps (o : Oper) : List Nat := (o.after.toList.filter (Region.binds .any)).map (·.on)
/-- it is wanted, whatever came -/
def Gok (R : Nat → Value → World → Prop) (o : Oper) (l : List Nat) : Prop := o.guard = none ∨ ∃ j b, o.guard = some (j, b) ∧ j ∈ l ∧ ∀ v w, R j v w → v = .bool b
/-- what must be shown of the k-th operation: it adds to the world, and what it yields has R -/
def StepB (P : Program) (Q : Exit → Act → World → Prop) (n : Nat) (B : Act → Prop) (w0 : World) (R : Nat → Value → World → Prop) (D : Nat → Nat) (k : Nat) (o : Oper) (l : List Nat) : Prop :=
  o.dst = some (D k) ∧ Gok R o l ∧ (∀ j ∈ l, j < k) ∧ D k < n ∧ ∀ (a : Act) (w : World), a.tmps.size = n → B a → Kp (fun _ => False) w0 w → (∀ j ∈ l, R j (a.eval (.tmp (D j))) w) →
    ∀ K : Act → World → Prop, Shut (∀ v w', Kp (fun _ => False) w w' → R k v w' → K (a.put (some (D k)) v) w') → Oper.wp P o a w K Q
/-- of each -/
def Steps (P : Program) (Q : Exit → Act → World → Prop) (n : Nat) (B : Act → Prop) (w0 : World) (R : Nat → Value → World → Prop) (D : Nat → Nat) : Nat → List (Oper × List Nat) → Prop
  | _, [] => True
  | k, (o, l) :: t => StepB P Q n B w0 R D k o l ∧ Steps P Q n B w0 R D (k + 1) t
theorem Steps.get {n : Nat} {B : Act → Prop} {w0 : World} {R : Nat → Value → World → Prop} {D : Nat → Nat} : ∀ (t : List (Oper × List Nat)) (k i : Nat) (o : Oper) (l : List Nat), Steps P Q n B w0 R D k t → t[i]? = some (o, l) → StepB P Q n B w0 R D (k + i) o l
  | [], _, _, _, _, _, h => by simp at h
  | x :: t, k, 0, o, l, h, hi => by
    simp at hi
    subst hi
    exact h.1
  | x :: t, k, i + 1, o, l, h, hi => by
    have := Steps.get t (k + 1) i o l h.2 (by simpa using hi)
    rw [show k + (i + 1) = k + 1 + i by omega]
    exact this
theorem mono_region {id : Nat} {a : Act} {y : World} (hm : P.follows .mixedOrders = true) (T : List (Oper × List Nat)) (hT : ops.toList.map (fun o => (bare o, deps o)) = T) (n : Nat) (B : Act → Prop) (R : Nat → Value → World → Prop) (D : Nat → Nat) (hn : a.tmps.size = n) (hB : B a)
    (hBp : ∀ k v a, k < T.length → B a → B (a.put (some (D k)) v))
    (hD : ∀ i j, i < T.length → j < T.length → D i = D j → i = j)
    (hR : ∀ i v w w', R i v w → Kp (fun _ => False) w w' → R i v w')
    (hs : Steps P Q n B y.drew R D 0 T)
    (hend : ∀ a w, a.tmps.size = n → B a → Kp (fun _ => False) y.drew w → (∀ i, i < T.length → R i (a.eval (.tmp (D i))) w) → Q .normal a w) :
    (Code.region id ops true).wp P Q a y := by
  have hTl : T.length = ops.size := by rw [← hT]; simp
  have hTi : ∀ (i : Nat) (o : Oper), ops[i]? = some o → T[i]? = some (bare o, deps o) := fun i o ho => by
    rw [← hT, List.getElem?_map]
    simp [ho]
  have hst : ∀ (i : Nat) (o : Oper), ops[i]? = some o → StepB P Q n B y.drew R D i (bare o) (deps o) := fun i o ho => by
    have := Steps.get T 0 i _ _ hs (hTi i o ho)
    rwa [Nat.zero_add] at this
  refine wp_region_held_drew (S := fun _ => True) hm trivial (fun _ => ?_)
  refine wpAnyH_inv (fun listed a w => a.tmps.size = n ∧ B a ∧ listed.size = ops.size ∧ Kp (fun _ => False) y.drew w ∧ ∀ i, i < ops.size → listed.getD i false = true → R i (a.eval (.tmp (D i))) w) ?_ ?_ _ _ _ _ ?_ ?_
  · rintro listed a w i ⟨h1, h2, h3, h4, h5⟩ hi
    obtain ⟨hu, o, ho, hall⟩ := mem_ready.1 hi
    have hlt := (Array.getElem?_eq_some_iff.1 ho).1
    obtain ⟨hdo, hg, hj, hdn, hw⟩ := hst i o ho
    unfold wpOp
    rw [ho]
    dsimp only
    have hdep : ∀ j ∈ deps o, R j (a.eval (.tmp (D j))) w := fun j hjl => by
      obtain ⟨e, he, rfl⟩ := List.mem_map.1 hjl
      obtain ⟨he1, he2⟩ := List.mem_filter.1 he
      exact h5 e.on (Nat.lt_trans (hj _ hjl) hlt) (hall e (by simpa using he1) he2)
    have hwant : Region.wanted o (yielded ops a.tmps) = true := by
      rcases hg with hg | ⟨j, b, hg, hjl, hb⟩
      · exact wanted_none hg
      · have hlt2 : j < ops.size := Nat.lt_trans (hj _ hjl) hlt
        have hoj := Array.getElem?_eq_getElem hlt2
        have hsj := hst j _ hoj
        exact wanted_some hg (yielded_of (by rw [hoj]; rfl) hsj.1 (hb _ _ (hdep j hjl)) (by rw [h1]; exact hsj.2.2.2.1))
    rw [if_pos hwant]
    refine Or.inl ?_
    rw [← wp_bare]
    refine hw a w h1 h2 h4 hdep _ ?_
    · intro v w' hk hv
      obtain ⟨p1, p2, p3, p4⟩ := act_put a (D i) v (by rw [h1]; exact hdn)
      refine ⟨p1.trans h1, hBp i v a (by omega) h2, by rw [Array.size_setIfInBounds]; exact h3, h4.trans hk (fun _ _ e => e), fun j hjs hl => ?_⟩
      by_cases e : i = j
      · subst e
        rw [p3]
        exact hv
      · rw [p4 (D j) (fun h => e (hD i j (by omega) (by omega) h.symm))]
        exact hR _ _ _ _ (h5 j hjs (by simpa [Array.getElem?_setIfInBounds_ne e] using hl)) hk
  · rintro listed a w ⟨h1, h2, h3, h4, h5⟩ hr
    have hall : ∀ m i, i < m → i < ops.size → listed.getD i false = true := by
      intro m
      induction m with
      | zero => intro i hi; omega
      | succ m ih =>
        intro i hi hs'
        by_cases e : i < m
        · exact ih i e hs'
        · cases hl : listed.getD i false with
          | true => rfl
          | false =>
            have hac := (hst i ops[i] (Array.getElem?_eq_getElem hs')).2.2.1
            have hmem : i ∈ Region.ready .any ops listed := by
              refine mem_ready.2 ⟨?_, ops[i], Array.getElem?_eq_getElem hs', fun e' he' hb' => ?_⟩
              · have hsz : i < listed.size := by omega
                simpa [hsz] using hl
              · have hlt := hac e'.on (List.mem_map.2 ⟨e', List.mem_filter.2 ⟨by simpa using he', hb'⟩, rfl⟩)
                exact ih e'.on (by omega) (by omega)
            rw [hr] at hmem
            cases hmem
    exact hend a w h1 h2 h4 (fun i hi => h5 i (by omega) (hall (i + 1) i (by omega) (by omega)))
  · unfold leftN
    have := List.countP_le_length (p := fun i => !(Array.replicate ops.size false).getD i true) (l := List.range ops.size)
    rw [List.length_range] at this
    exact this
  · refine ⟨hn, hB, by simp, Kp.refl _ _, fun i hi hl => ?_⟩
    simp [hi] at hl
end
end Go.Proofs.YtmooddbhcccicaaGreatDoor

/- Texts of this proof, joined: Ao, Ad. -/
/- A head is written. -/
namespace Go.Proofs.YtmooddbhcccicaaGreatDoor
set_option linter.unusedVariables false
set_option linter.unusedSimpArgs false
open Go.RowKit Go.Deep

theorem Bk.base {w : World} {base base' g cap N : Nat} {xs : List Nat} (h : Bk w base g cap N xs) (hb : base' ≤ base) : Bk w base' g cap N xs := ⟨h.len, h.byte, ownsRow_base h.ow hb⟩
/-- what is durable behind a head was written -/
def wrHead (dur : List Nat) (T : Nat → Option (List Nat)) (n i : Nat) (hd : List Nat) : List Nat := durAll (durAll dur (fun j => if j = i then some (nouW 64) else T j) n) (fun j => if j = i then some hd else none) n
set_option maxRecDepth 100000 in
theorem nil_neq (w : World) : (binOp .neq 112 .nilIface .nilIface).run Tryz.prog w = .ok (.bool false) w := by rfl
set_option maxRecDepth 100000 in
set_option maxHeartbeats 1600000 in
theorem writeHead_ok {w : World} {bp d m n q : Nat} {dur : List Nat} {T : Nat → Option (List Nat)} (h : Pt w bp d m n q dur T) (hq : (q : Int) < 9223372036854775807) (hn2 : 2 ≤ n) (s : Int) (a b c e : Nat) (ha : a ≤ 1152921504606846976) (hb : b ≤ 1152921504606846976) (hc : c ≤ 1152921504606846976) (he : e ≤ 1152921504606846976) (ht : Turns w) :
    Calls Tryz.prog 199 #[ringV bp s, headV a b c e] w fun e9 w' => e9 = .returned .nilIface ∧ Kp (fun x => x = d ∨ x = m) w w' ∧ Pt w' bp d m n 0 (wrHead dur T n (a % 2) (hdB a b c e)) (fun _ => none) := by
  have HP : Hid (Pt w bp d m n q dur T) := h
  have HB : Hid (∀ u, Calls Tryz.prog 203 #[] u fun e9 w' => ∃ g, u.heap.size ≤ g ∧ e9 = .returned (.slice (some ⟨g, 0, none⟩) 64 64) ∧ Kp (fun _ => False) u w' ∧ Bk w' u.heap.size g 64 64 (nouW 64)) := fun u => blankS_ok u
  have HS : Hid (∀ u, Kp (fun _ => False) w u → Calls Tryz.prog 222 #[headV a b c e] u fun e9 w' => ∃ g, u.heap.size ≤ g ∧ e9 = .returned (.slice (some ⟨g, 0, none⟩) 64 64) ∧ Kp (fun _ => False) u w' ∧ Bk w' u.heap.size g 64 64 (hdB a b c e)) := fun u k => hsector_ok a b c e u ha hb hc he (fun j hj => k.cellv (ht j hj) id)
  obtain ⟨i, hi⟩ : ∃ i, i = a % 2 := ⟨_, rfl⟩
  have HI : Hid ((i : Int) < (n : Int)) := by show _ < _; omega
  have HQ : Hid ((q : Int) < 9223372036854775807) := hq
  have hi1 : (a : Int) % 2 = (i : Int) := by omega
  have hi2 : (a : Int).tmod 2 = (i : Int) := by rw [Int.tmod_eq_emod_of_nonneg (by omega)]; exact hi1
  obtain ⟨hdb, hhd⟩ : ∃ x, x = hdB a b c e := ⟨_, rfl⟩
  rw [← hi, ← hhd]
  rw [← hhd] at HS
  obtain ⟨r, hr⟩ : ∃ r, r = w.heap.size := ⟨_, rfl⟩
  obtain ⟨r2, hr2⟩ : ∃ r2, r2 = w.heap.size + 1 := ⟨_, rfl⟩
  obtain ⟨w0, hw0⟩ : ∃ y, y = (w.alloc (.cells #[.pointer (some ⟨bp, 0, none⟩), .int .i64 s] 153)).alloc (.cells #[.int .i64 (a : Int), .int .i64 (b : Int), .int .i64 (c : Int), .int .i64 (e : Int)] 155) := ⟨_, rfl⟩
  have zz : (w.alloc (.cells #[.pointer (some ⟨bp, 0, none⟩), .int .i64 s] 153)).heap.size = w.heap.size + 1 := by simp
  have HK0 : Hid (Kp (fun _ => False) w w0) := by rw [hw0]; exact ((Kp.refl _ _).alloc _).alloc _
  have HL0 : Hid (Lv w0 r [.pointer (some ⟨bp, 0, none⟩), .int .i64 s]) := by rw [hw0, hr]; exact (Lv.new w _ _).keep ((Kp.refl (fun _ => False) _).alloc _) id
  have HH0 : Hid (Lv w0 r2 [.int .i64 (a : Int), .int .i64 (b : Int), .int .i64 (c : Int), .int .i64 (e : Int)]) := by rw [hw0, hr2, ← zz]; exact Lv.new _ _ _
  have HG0 : Hid (r = w.heap.size ∧ r2 = w.heap.size + 1 ∧ d < w.heap.size ∧ m < w.heap.size) := ⟨hr, hr2, h.row.lt, h.mp.lt⟩
  have q0 := HH0.out.cell (j := 0) rfl
  have q1 := HH0.out.cell (j := 1) rfl
  have q2 := HH0.out.cell (j := 2) rfl
  have q3 := HH0.out.cell (j := 3) rfl
  have hnn := nil_neq
  clear zz h hq hn2 ha hb hc he ht hi hhd
  go_enter Tryz.func199, Tryz.ntmps199
  go_upto_region 1 with fail
  rw [← hw0, ← hr2, ← hr]
  clear hw0 hr hr2
  have kd := HK0.out.drew
  have HQ9 : Hid (∀ u, Kp (fun _ => False) w0.drew u → u.cell? ⟨r2, 0, none⟩ = some (.int .i64 (a : Int)) ∧ u.cell? ⟨r2, 1, none⟩ = some (.int .i64 (b : Int)) ∧ u.cell? ⟨r2, 2, none⟩ = some (.int .i64 (c : Int)) ∧ u.cell? ⟨r2, 3, none⟩ = some (.int .i64 (e : Int))) := fun u k => by
    have hl : Lv u r2 [.int .i64 (a : Int), .int .i64 (b : Int), .int .i64 (c : Int), .int .i64 (e : Int)] := HH0.out.keep ((Kp.refl (fun _ => False) w0).drew.trans k (fun _ _ e => e)) id
    exact ⟨hl.cell (j := 0) rfl, hl.cell (j := 1) rfl, hl.cell (j := 2) rfl, hl.cell (j := 3) rfl⟩
  go_region_with (first
    | (go_at_call 222; have k3 := k1; refine (HS.out _ k3).mono ?_; rintro e9 wb ⟨gb, hgb, rfl, kb, xb⟩)
    | (go_at_call 203; refine (HB.out _).mono ?_; rintro e9 wa ⟨ga, hga, rfl, ka, xa⟩; have k1 := kd.trans ka (fun _ _ e => e); obtain ⟨p0, p1, p2, p3⟩ := HQ9.out wa ka))
  all_goals
    obtain ⟨L, hL⟩ : ∃ L, L = wb.heap.size := ⟨_, rfl⟩
    obtain ⟨wc, hwc⟩ : ∃ y, y = wb.alloc (.cells #[.slice (some ⟨ga, 0, none⟩) 64 64, .slice (some ⟨gb, 0, none⟩) 64 64] 34) := ⟨_, rfl⟩
    have kbc : Kp (fun _ => False) wb wc := by rw [hwc]; exact (Kp.refl _ _).alloc _
    have HKc : Hid (Kp (fun _ => False) w wc) := (k1.trans kb (fun _ _ e => e)).trans kbc (fun _ _ e => e)
    have HKc0 : Hid (Kp (fun _ => False) w0 wc) := (((Kp.refl (fun _ => False) w0).drew.trans ka (fun _ _ e => e)).trans kb (fun _ _ e => e)).trans kbc (fun _ _ e => e)
    have HGs : Hid (w0.heap.size ≤ ga ∧ w0.heap.size ≤ gb ∧ w0.heap.size ≤ L ∧ w0.heap.size = w0.heap.size) := ⟨by have := hga; simpa using this, by have h1 := ka.size; have : w0.drew.heap.size = w0.heap.size := rfl; omega, by have h1 := ka.size; have h2 := kb.size; have : w0.drew.heap.size = w0.heap.size := rfl; omega, rfl⟩
    have HXa : Hid (Bk wc 0 ga 64 64 (nouW 64)) := ((xa.keep0 kb).keep0 kbc).base (Nat.zero_le _)
    have HXb : Hid (Bk wc 0 gb 64 64 hdb) := (xb.keep0 kbc).base (Nat.zero_le _)
    have HLl : Hid (Lv wc L [.slice (some ⟨ga, 0, none⟩) 64 64, .slice (some ⟨gb, 0, none⟩) 64 64]) := by rw [hwc, hL]; exact Lv.new _ _ _
    have HLr : Hid (Lv wc r [.pointer (some ⟨bp, 0, none⟩), .int .i64 s] ∧ Lv wc r2 [.int .i64 (a : Int), .int .i64 (b : Int), .int .i64 (c : Int), .int .i64 (e : Int)]) := ⟨HL0.out.keep HKc0.out id, HH0.out.keep HKc0.out id⟩
    have HPc : Hid (Pt wc bp d m n q dur T) := HP.out.keep0 HKc.out
    clear q0 q1 q2 q3 kd kbc k1 kb ka xa xb hga hgb
    try clear p0 p1 p2 p3
    rw [← hwc, ← hL]
    clear hwc hL
    go_simp
    go_wp2
    refine wp_loop_rounds 3 ?_
    rw [rounds_succ]
    have l0 := HLl.out.cell (j := 0) rfl
    have r0 := HLr.out.1.cell (j := 0) rfl
    have r1 := HLr.out.1.cell (j := 1) rfl
    have t0 := HLr.out.2.cell (j := 0) rfl
    go_wp2_with fail
    refine (rwrite_ok HPc.out HQ.out s i HI.out ga 0 64 (nouW 64) HXa.out.rb).mono ?_
    rintro e9 w1a ⟨rfl, k9, p9⟩
    have HP1a : Hid (Pt w1a bp d m n (q + 1) dur (fun j => if j = i then some (nouW 64) else T j)) := p9
    have HK1a : Hid (Kp (fun x => x = d ∨ x = m) wc w1a) := k9.mono (fun _ _ e => Or.inr e)
    have hl9 : Lv w1a r [.pointer (some ⟨bp, 0, none⟩), .int .i64 s] := HLr.out.1.keep HK1a.out (fun e => by have := HG0.out; omega)
    have r0 := hl9.cell (j := 0) rfl
    have r1 := hl9.cell (j := 1) rfl
    clear k9 p9 hl9 HPc
    go_wp2_with fail
    refine (rsync_ok HP1a.out s).mono ?_
    rintro e9 w1b ⟨rfl, k9, p9⟩
    have HP1b : Hid (Pt w1b bp d m n 0 (durAll dur (fun j => if j = i then some (nouW 64) else T j) n) (fun _ => none)) := p9
    have HK1b : Hid (Kp (fun x => x = d ∨ x = m) wc w1b) := HK1a.out.trans k9 (fun _ _ e => e)
    clear k9 p9 HP1a r0 r1
    have hlL : Lv w1b L [.slice (some ⟨ga, 0, none⟩) 64 64, .slice (some ⟨gb, 0, none⟩) 64 64] := HLl.out.keep HK1b.out (fun e => by have := HG0.out; have := HGs.out; have := HK0.out.size; omega)
    have l1 := hlL.cell (j := 1) rfl
    have hl9 : Lv w1b r [.pointer (some ⟨bp, 0, none⟩), .int .i64 s] := HLr.out.1.keep HK1b.out (fun e => by have := HG0.out; omega)
    have r0 := hl9.cell (j := 0) rfl
    have r1 := hl9.cell (j := 1) rfl
    have hl8 : Lv w1b r2 [.int .i64 (a : Int), .int .i64 (b : Int), .int .i64 (c : Int), .int .i64 (e : Int)] := HLr.out.2.keep HK1b.out (fun e => by have := HG0.out; omega)
    have t0 := hl8.cell (j := 0) rfl
    clear hlL hl9 hl8
    go_wp2_with fail
    rw [rounds_succ]
    go_wp2_with fail
    refine (rwrite_ok HP1b.out (by decide) s i HI.out gb 0 64 hdb (HXb.out.keep HK1b.out (fun e => by have := HG0.out; have := HGs.out; have := HKc.out.size; have := HK0.out.size; omega)).rb).mono ?_
    rintro e9 w2a ⟨rfl, k9, p9⟩
    have HP2a : Hid (Pt w2a bp d m n (0 + 1) (durAll dur (fun j => if j = i then some (nouW 64) else T j) n) (fun j => if j = i then some (hdb) else none)) := p9
    have HK2a : Hid (Kp (fun x => x = d ∨ x = m) wc w2a) := HK1b.out.trans k9 (fun _ _ e => Or.inr e)
    have hl9 : Lv w2a r [.pointer (some ⟨bp, 0, none⟩), .int .i64 s] := HLr.out.1.keep HK2a.out (fun e => by have := HG0.out; omega)
    have r0 := hl9.cell (j := 0) rfl
    have r1 := hl9.cell (j := 1) rfl
    clear k9 p9 hl9 HP1b
    go_wp2_with fail
    refine (rsync_ok HP2a.out s).mono ?_
    rintro e9 w2b ⟨rfl, k9, p9⟩
    have HP2b : Hid (Pt w2b bp d m n 0 (durAll (durAll dur (fun j => if j = i then some (nouW 64) else T j) n) (fun j => if j = i then some (hdb) else none) n) (fun _ => none)) := p9
    have HK2b : Hid (Kp (fun x => x = d ∨ x = m) wc w2b) := HK2a.out.trans k9 (fun _ _ e => e)
    clear k9 p9 HP2a r0 r1
    have HF : Hid (Kp (fun x => x = d ∨ x = m) w w2b) := (HKc.out.mono (fun _ _ e => e.elim)).trans HK2b.out (fun _ _ e => e)
    have HPf : Hid (Pt w2b bp d m n 0 (wrHead dur T n i hdb) (fun _ => none)) := HP2b.out
    go_wp2_with fail
    rw [rounds_succ]
    go_wp2
    go_ret
    exact ⟨rfl, HF.out, HPf.out⟩
end Go.Proofs.YtmooddbhcccicaaGreatDoor

/- A heap of numbers: Push of its own (laid by scripts/mkad.py). -/
namespace Go.Proofs.YtmooddbhcccicaaGreatDoor
set_option linter.unusedVariables false
open Go.RowKit Go.Deep

theorem wp_appI {t tx : TypeId} {o : Oper} {a : Act} {w : World} {K : Act → World → Prop} {Q : Exit → Act → World → Prop} (s y : Operand)
    (ho : o.op = .call { callee := .builtin .append, args := #[s, y], argTypes := #[t, tx] })
    (base : Nat) (e : TypeId) (i : TypeInfo) (z : Value) (size bytes : Nat) (ht : Tryz.prog.underlying t = some (.slice e)) (hi : Tryz.prog.info? e = some i) (hz : i.zero = some z)
    (hsize : i.size = size) (hby : i.bytes = bytes) (hzs : z.cells.size = size) (hsz : 0 < size)
    (v : Value) (n : Nat) (xs : List Value) (hs : a.eval s = v) (hown : w.ownsRow base e size v n xs)
    (x : Value) (m : Nat) (news : List Value) (hx : a.eval y = x) (hsrc : Src Tryz.prog size tx x m news w)
    (h63 : n + m ≤ maxLen) (hbytes : (n + m) * bytes ≤ 140737488355328) (hbase : base ≤ w.heap.size)
    (h : ∀ v' w', w'.ownsRow base e size v' (n + m) (xs ++ news) → w.grownBy w' v.ownBlock → (v'.ownBlock = v.ownBlock ∨ v'.ownBlock = some w.heap.size) → K (a.put o.dst v') w') : o.wp Tryz.prog a w K Q := by
  obtain ⟨v', w', hr, h2, h3, h4⟩ := run_append_own_src (P := Tryz.prog) w base t tx o.type e i z size bytes ht hi hz hsize hby hzs hsz v n xs hown x m news hsrc h63 hbytes hbase
  unfold Oper.wp execOp
  simp only [ho, resolve, invoke, builtin, Sem.run_bind, Sem.run_pure, Result.andThen_ok, List.map_toArray, List.map_cons, List.map_nil, hs, hx, hr]
  exact h v' w' h2 h3 h4
theorem infoI0 : (Tryz.prog.info? 3).map (fun i => (i.zero.map (·.cells.size), i.size, i.bytes)) = some (some 1, 1, 8) := by kernel_rfl
theorem infoI : ∃ i z, Tryz.prog.info? 3 = some i ∧ i.zero = some z ∧ i.size = 1 ∧ i.bytes = 8 ∧ z.cells.size = 1 := by
  obtain ⟨i, hi, he⟩ := Option.map_eq_some_iff.1 infoI0
  simp only [Prod.mk.injEq] at he
  obtain ⟨h1, h2, h3⟩ := he
  obtain ⟨z, hz, h4⟩ := Option.map_eq_some_iff.1 h1
  exact ⟨i, z, hi, hz, h2, h3, h4⟩
theorem tasI (v : Value) (w : World) : (Instr.typeAssert (.iface 3 v) 20 3 false).run Tryz.prog w = .ok v w := by kernel_rfl
theorem uIs : Tryz.prog.underlying 156 = some (.slice 3) := Tryz.underlying156

set_option maxRecDepth 100000 in
set_option maxHeartbeats 1600000 in
theorem ipushm {w : World} {h o g cap : Nat} {pre post : List Value} {l : List Nat} (x : Ip w h o g cap pre post l) (k : Nat) (hl : l.length ≤ 10000) :
    Calls Tryz.prog 269 #[.pointer (some ⟨h, o, none⟩), .iface 3 (.int .i64 (k : Int))] w fun e w' => e = .returned (.tuple #[]) ∧ Kp (fun b => b = h ∨ b = g) w w' ∧ ∃ g' cap', (g' = g ∨ w.heap.size ≤ g') ∧ Ip w' h o g' cap' pre post (l ++ [k]) := by
  have HX : Hid (Ip w h o g cap pre post l) := x
  obtain ⟨n, hn⟩ : ∃ n, n = l.length := ⟨_, rfl⟩
  obtain ⟨a, ha⟩ : ∃ a : Int, a = (k : Int) := ⟨_, rfl⟩
  have HN : Hid (n = l.length ∧ a = (k : Int) ∧ n ≤ 10000) := ⟨hn, ha, by omega⟩
  rw [← ha]
  have HSS : Hid (∀ u, Kp (fun _ => False) w u → u.cell? ⟨h, o, none⟩ = some (.slice (some ⟨g, 0, none⟩) n cap)) := fun u ku => by rw [hn]; exact (x.keep0 ku).c0
  clear x hl hn ha
  obtain ⟨ti, tz, hi1, hi2, hi3, hi4, hi5⟩ := infoI
  have hta := tasI
  go_enter Tryz.func269, Tryz.ntmps269
  go_wp2
  have kd0 : Kp (fun _ => False) w w.drew := (Kp.refl _ _).drew
  obtain ⟨wd, hwd⟩ : ∃ y, y = w.drew := ⟨_, rfl⟩
  refine wp_region_held_drew (S := (fun _ : World => True)) (by kernel_rfl) trivial (fun hHeld => ?_)
  rw [← hwd] at kd0 ⊢
  clear hwd
  simp only [List.size_toArray, List.length_cons, List.length_nil, Nat.zero_add, Nat.reduceAdd]
  refine wpAnyH_take (i := 0) (v := ?zv0) (List.getElem?_toArray.trans rfl) (by kernel_rfl) (by kernel_rfl) (by kernel_rfl) (fun _ _ _ h => h) (Or.inl ⟨by rfl, ?zy0⟩) (by assumption) ?zr0
  case zy0 => (intro w hSw; go_simp; try with_reducible rfl)
  simp only [Act.put, List.setIfInBounds_toArray, List.set_cons_zero, List.set_cons_succ]
  refine wpAnyH_take (i := 1) (v := ?zv1) (List.getElem?_toArray.trans rfl) (by kernel_rfl) (by kernel_rfl) (by kernel_rfl) (fun _ _ _ h => h) (Or.inl ⟨by rfl, ?zy1⟩) (by assumption) ?zr1
  case zy1 => (intro w hSw; go_simp; try with_reducible rfl)
  simp only [Act.put, List.setIfInBounds_toArray, List.set_cons_zero, List.set_cons_succ]
  refine wpAnyH_take (i := 2) (v := ?zv2) (List.getElem?_toArray.trans rfl) (by kernel_rfl) (by kernel_rfl) (by kernel_rfl) (fun _ _ _ h => h) (Or.inl ⟨by rfl, ?zy2⟩) (by assumption) ?zr2
  case zy2 => (intro w hSw; go_simp; try with_reducible rfl)
  simp only [Act.put, List.setIfInBounds_toArray, List.set_cons_zero, List.set_cons_succ]
  refine wpAnyH_take (i := 4) (v := ?zv4) (List.getElem?_toArray.trans rfl) (by kernel_rfl) (by kernel_rfl) (by kernel_rfl) (fun _ _ _ h => h) (Or.inl ⟨by rfl, ?zy4⟩) (by assumption) ?zr4
  case zy4 => (intro w hSw; go_simp; try with_reducible rfl)
  simp only [Act.put, List.setIfInBounds_toArray, List.set_cons_zero, List.set_cons_succ]
  refine wpAnyH_take (i := 5) (v := ?zv5) (List.getElem?_toArray.trans rfl) (by kernel_rfl) (by kernel_rfl) (by kernel_rfl) (fun _ _ _ h => h) (Or.inl ⟨by rfl, ?zy5⟩) (by assumption) ?zr5
  case zy5 => (intro w hSw; go_simp; try with_reducible rfl)
  simp only [Act.put, List.setIfInBounds_toArray, List.set_cons_zero, List.set_cons_succ]
  refine wpAnyH_ready (rs := [3, 6]) (by kernel_rfl) (by simp) ?_
  refine AllReadyH.cons rfl (fun Ka hKa => ?_) (AllReadyH.cons rfl (fun Ka hKa => ?_) AllReadyH.nil)
  · rw [if_pos (by rfl)]
    have c0 := HSS.out _ kd0
    go_simp
    clear c0 hHeld
    try dsimp only
    refine hKa.out _ _ trivial (fun hHeld => ?_)
    clear hKa Ka
    refine wpAnyH_ready (rs := [6]) (by kernel_rfl) (by simp) ?_
    refine AllReadyH.cons rfl (fun Ka hKa => ?_) AllReadyH.nil
    rw [if_pos (by rfl)]
    go_simp
    have k1 : Kp (fun _ => False) w (wd.alloc (.cells #[.int .i64 a] 3)) := kd0.alloc _
    have HL1 : Hid (Lv (wd.alloc (.cells #[.int .i64 a] 3)) wd.heap.size [.int .i64 a]) := Lv.new wd _ _
    obtain ⟨r, hr⟩ : ∃ r, r = wd.heap.size := ⟨_, rfl⟩
    obtain ⟨w1, hw1⟩ : ∃ y, y = wd.alloc (.cells #[.int .i64 a] 3) := ⟨_, rfl⟩
    rw [← hw1] at k1 HL1 ⊢
    rw [← hr] at HL1 ⊢
    clear hHeld hr hw1
    try dsimp only
    refine hKa.out _ _ trivial (fun hHeld => ?_)
    clear hKa Ka
    refine wpAnyH_ready (rs := [7]) (by kernel_rfl) (by simp) ?_
    refine AllReadyH.cons rfl (fun Ka hKa => ?_) AllReadyH.nil
    rw [if_pos (by rfl)]
    have HX1 : Hid (Ip w1 h o g cap pre post l) := HX.out.keep0 k1
    refine wp_appI _ _ rfl 0 3 ti tz 1 8 uIs hi1 hi2 hi3 hi4 hi5 (by decide) (.slice (some ⟨g, 0, none⟩) n cap) n (nls l) rfl (by rw [HN.out.1]; exact HX1.out.ow) (.slice (some ⟨r, 0, none⟩) 1 1) 1 [.int .i64 a] rfl (Src.ofSlice _ uIs ⟨r, 0, none⟩ 1 1 [.int .i64 a] rfl (fun j u hj => by rw [Addr.add_mid, Nat.zero_add]; exact HL1.out.cell hj) (fun u hu => by simp only [List.mem_cons, List.not_mem_nil, or_false] at hu; rw [hu]; rfl)) (by have := HN.out; unfold maxLen; omega) (by have := HN.out; omega) (Nat.zero_le _) ?_
    intro v' w2 hown hk hblk
    simp only [List.getElem_toArray, List.getElem_cons_succ, List.getElem_cons_zero, Act.put]
    have k2 := grownBy_kp hk
    have hv' : ∃ g' cap', v' = .slice (some ⟨g', 0, none⟩) (n + 1) cap' := by
      rcases Joins.ownsRow_forms hown with ⟨e1, e2⟩ | ⟨g', cap', e⟩
      · omega
      · exact ⟨g', cap', e⟩
    obtain ⟨g', cap', rfl⟩ := hv'
    have hgb := HX1.out.gb
    have hhl := HX1.out.hb
    have hgn : g' ≠ h ∧ (g' = g ∨ w.heap.size ≤ g') := by
      rcases hblk with e | e
      · have e' : some g' = some g := e
        injection e' with e'
        exact ⟨by rw [e']; exact HX1.out.ne, Or.inl e'⟩
      · have e' : some g' = some w1.heap.size := e
        injection e' with e'
        have := k1.size
        exact ⟨by omega, Or.inr (by omega)⟩
    have hl2 : Lv w2 h (pre ++ .slice (some ⟨g, 0, none⟩) n cap :: post) := by
      have h4 := HX1.out.lv.keep k2 (fun e => by have e' : some g = some h := e; injection e' with e'; exact HX1.out.ne e')
      rw [HN.out.1]; exact h4
    have hol := HX1.out.ol
    have c2 : w2.cell? ⟨h, o, none⟩ = some (.slice (some ⟨g, 0, none⟩) n cap) := hl2.cell (j := o) (by rw [← hol]; exact mid_get _ _ _)
    have f2 : w2.frozen? ⟨h, o, none⟩ = false := hl2.fz (by rw [← hol]; simp)
    have K2 : Hid (Kp (fun b => b = h ∨ b = g) w w2) := (k1.mono (fun _ _ e => e.elim)).trans k2 (fun b hb e => by have e' : some g = some b := e; injection e' with e'; exact Or.inr e'.symm)
    have HO2 : Hid (w2.ownsRow 0 3 1 (.slice (some ⟨g', 0, none⟩) (n + 1) cap') (n + 1) (nls (l ++ [k]))) := by
      show w2.ownsRow _ _ _ _ _ _
      rw [nls_append]
      show w2.ownsRow _ _ _ _ _ (nls l ++ [.int .i64 (k : Int)])
      rw [← HN.out.2.1]
      exact hown
    have HB : Hid (pre.length = o ∧ g' ≠ h ∧ (g' = g ∨ w.heap.size ≤ g')) := ⟨hol, hgn.1, hgn.2⟩
    have HL2 : Hid (Lv w2 h (pre ++ .slice (some ⟨g, 0, none⟩) n cap :: post)) := hl2
    clear hHeld k2 hk hblk hown hgb hhl hgn hl2 hol
    refine hKa.out _ _ trivial (fun hHeld => ?_)
    clear hKa Ka
    refine wpAnyH_take (i := 8) (v := ?zv8a) (List.getElem?_toArray.trans rfl) (by kernel_rfl) (by kernel_rfl) (by kernel_rfl) (fun _ _ _ h => h) (Or.inl ⟨by rfl, ?zy8a⟩) (by assumption) ?zr8a
    case zy8a => (intro w hSw; go_simp; try with_reducible rfl)
    simp only [Act.put, List.setIfInBounds_toArray, List.set_cons_zero, List.set_cons_succ]
    refine wpAnyH_ready (rs := [9]) (by kernel_rfl) (by simp) ?_
    refine AllReadyH.cons rfl (fun Ka hKa => ?_) AllReadyH.nil
    rw [if_pos (by rfl)]
    go_simp
    have ks : Kp (fun b => b = h) w2 (w2.setCell ⟨h, o, none⟩ (.slice (some ⟨g', 0, none⟩) (n + 1) cap')) := (Kp.refl (fun b => b = h) w2).setCell (fun _ => rfl) _
    have hl3 := HL2.out.set1 o (.slice (some ⟨g', 0, none⟩) (n + 1) cap') (by rw [← HB.out.1]; simp)
    rw [← HB.out.1, mid_set, HB.out.1] at hl3
    have hlen : (l ++ [k]).length = n + 1 := by rw [List.length_append, HN.out.1]; rfl
    have HF : Hid (Kp (fun b => b = h ∨ b = g) w (w2.setCell ⟨h, o, none⟩ (.slice (some ⟨g', 0, none⟩) (n + 1) cap')) ∧ Ip (w2.setCell ⟨h, o, none⟩ (.slice (some ⟨g', 0, none⟩) (n + 1) cap')) h o g' cap' pre post (l ++ [k])) := ⟨K2.out.trans ks (fun b hb e => Or.inl e), ⟨by rw [hlen]; exact hl3, HB.out.1, by rw [hlen]; exact ownsRow_keep HO2.out ks (fun g0 e e2 => by have e' : some g' = some g0 := e; injection e' with e'; have := HB.out.2.1; omega), HB.out.2.1⟩⟩
    clear hHeld ks hl3 hlen
    try dsimp only
    refine hKa.out _ _ trivial (fun hHeld => ?_)
    clear hKa Ka
    refine wpAnyH_done (by kernel_rfl) ?_ _
    go_wp2
    go_end0
    exact ⟨rfl, HF.out.1, g', cap', HB.out.2.2, HF.out.2⟩
  · rw [if_pos (by rfl)]
    go_simp
    have k1 : Kp (fun _ => False) w (wd.alloc (.cells #[.int .i64 a] 3)) := kd0.alloc _
    have HL1 : Hid (Lv (wd.alloc (.cells #[.int .i64 a] 3)) wd.heap.size [.int .i64 a]) := Lv.new wd _ _
    obtain ⟨r, hr⟩ : ∃ r, r = wd.heap.size := ⟨_, rfl⟩
    obtain ⟨w1, hw1⟩ : ∃ y, y = wd.alloc (.cells #[.int .i64 a] 3) := ⟨_, rfl⟩
    rw [← hw1] at k1 HL1 ⊢
    rw [← hr] at HL1 ⊢
    clear hHeld hr hw1
    try dsimp only
    refine hKa.out _ _ trivial (fun hHeld => ?_)
    clear hKa Ka
    refine wpAnyH_ready (rs := [3]) (by kernel_rfl) (by simp) ?_
    refine AllReadyH.cons rfl (fun Ka hKa => ?_) AllReadyH.nil
    rw [if_pos (by rfl)]
    have c0 := HSS.out _ k1
    go_simp
    clear c0 hHeld
    try dsimp only
    refine hKa.out _ _ trivial (fun hHeld => ?_)
    clear hKa Ka
    refine wpAnyH_ready (rs := [7]) (by kernel_rfl) (by simp) ?_
    refine AllReadyH.cons rfl (fun Ka hKa => ?_) AllReadyH.nil
    rw [if_pos (by rfl)]
    have HX1 : Hid (Ip w1 h o g cap pre post l) := HX.out.keep0 k1
    refine wp_appI _ _ rfl 0 3 ti tz 1 8 uIs hi1 hi2 hi3 hi4 hi5 (by decide) (.slice (some ⟨g, 0, none⟩) n cap) n (nls l) rfl (by rw [HN.out.1]; exact HX1.out.ow) (.slice (some ⟨r, 0, none⟩) 1 1) 1 [.int .i64 a] rfl (Src.ofSlice _ uIs ⟨r, 0, none⟩ 1 1 [.int .i64 a] rfl (fun j u hj => by rw [Addr.add_mid, Nat.zero_add]; exact HL1.out.cell hj) (fun u hu => by simp only [List.mem_cons, List.not_mem_nil, or_false] at hu; rw [hu]; rfl)) (by have := HN.out; unfold maxLen; omega) (by have := HN.out; omega) (Nat.zero_le _) ?_
    intro v' w2 hown hk hblk
    simp only [List.getElem_toArray, List.getElem_cons_succ, List.getElem_cons_zero, Act.put]
    have k2 := grownBy_kp hk
    have hv' : ∃ g' cap', v' = .slice (some ⟨g', 0, none⟩) (n + 1) cap' := by
      rcases Joins.ownsRow_forms hown with ⟨e1, e2⟩ | ⟨g', cap', e⟩
      · omega
      · exact ⟨g', cap', e⟩
    obtain ⟨g', cap', rfl⟩ := hv'
    have hgb := HX1.out.gb
    have hhl := HX1.out.hb
    have hgn : g' ≠ h ∧ (g' = g ∨ w.heap.size ≤ g') := by
      rcases hblk with e | e
      · have e' : some g' = some g := e
        injection e' with e'
        exact ⟨by rw [e']; exact HX1.out.ne, Or.inl e'⟩
      · have e' : some g' = some w1.heap.size := e
        injection e' with e'
        have := k1.size
        exact ⟨by omega, Or.inr (by omega)⟩
    have hl2 : Lv w2 h (pre ++ .slice (some ⟨g, 0, none⟩) n cap :: post) := by
      have h4 := HX1.out.lv.keep k2 (fun e => by have e' : some g = some h := e; injection e' with e'; exact HX1.out.ne e')
      rw [HN.out.1]; exact h4
    have hol := HX1.out.ol
    have c2 : w2.cell? ⟨h, o, none⟩ = some (.slice (some ⟨g, 0, none⟩) n cap) := hl2.cell (j := o) (by rw [← hol]; exact mid_get _ _ _)
    have f2 : w2.frozen? ⟨h, o, none⟩ = false := hl2.fz (by rw [← hol]; simp)
    have K2 : Hid (Kp (fun b => b = h ∨ b = g) w w2) := (k1.mono (fun _ _ e => e.elim)).trans k2 (fun b hb e => by have e' : some g = some b := e; injection e' with e'; exact Or.inr e'.symm)
    have HO2 : Hid (w2.ownsRow 0 3 1 (.slice (some ⟨g', 0, none⟩) (n + 1) cap') (n + 1) (nls (l ++ [k]))) := by
      show w2.ownsRow _ _ _ _ _ _
      rw [nls_append]
      show w2.ownsRow _ _ _ _ _ (nls l ++ [.int .i64 (k : Int)])
      rw [← HN.out.2.1]
      exact hown
    have HB : Hid (pre.length = o ∧ g' ≠ h ∧ (g' = g ∨ w.heap.size ≤ g')) := ⟨hol, hgn.1, hgn.2⟩
    have HL2 : Hid (Lv w2 h (pre ++ .slice (some ⟨g, 0, none⟩) n cap :: post)) := hl2
    clear hHeld k2 hk hblk hown hgb hhl hgn hl2 hol
    refine hKa.out _ _ trivial (fun hHeld => ?_)
    clear hKa Ka
    refine wpAnyH_take (i := 8) (v := ?zv8b) (List.getElem?_toArray.trans rfl) (by kernel_rfl) (by kernel_rfl) (by kernel_rfl) (fun _ _ _ h => h) (Or.inl ⟨by rfl, ?zy8b⟩) (by assumption) ?zr8b
    case zy8b => (intro w hSw; go_simp; try with_reducible rfl)
    simp only [Act.put, List.setIfInBounds_toArray, List.set_cons_zero, List.set_cons_succ]
    refine wpAnyH_ready (rs := [9]) (by kernel_rfl) (by simp) ?_
    refine AllReadyH.cons rfl (fun Ka hKa => ?_) AllReadyH.nil
    rw [if_pos (by rfl)]
    go_simp
    have ks : Kp (fun b => b = h) w2 (w2.setCell ⟨h, o, none⟩ (.slice (some ⟨g', 0, none⟩) (n + 1) cap')) := (Kp.refl (fun b => b = h) w2).setCell (fun _ => rfl) _
    have hl3 := HL2.out.set1 o (.slice (some ⟨g', 0, none⟩) (n + 1) cap') (by rw [← HB.out.1]; simp)
    rw [← HB.out.1, mid_set, HB.out.1] at hl3
    have hlen : (l ++ [k]).length = n + 1 := by rw [List.length_append, HN.out.1]; rfl
    have HF : Hid (Kp (fun b => b = h ∨ b = g) w (w2.setCell ⟨h, o, none⟩ (.slice (some ⟨g', 0, none⟩) (n + 1) cap')) ∧ Ip (w2.setCell ⟨h, o, none⟩ (.slice (some ⟨g', 0, none⟩) (n + 1) cap')) h o g' cap' pre post (l ++ [k])) := ⟨K2.out.trans ks (fun b hb e => Or.inl e), ⟨by rw [hlen]; exact hl3, HB.out.1, by rw [hlen]; exact ownsRow_keep HO2.out ks (fun g0 e e2 => by have e' : some g' = some g0 := e; injection e' with e'; have := HB.out.2.1; omega), HB.out.2.1⟩⟩
    clear hHeld ks hl3 hlen
    try dsimp only
    refine hKa.out _ _ trivial (fun hHeld => ?_)
    clear hKa Ka
    refine wpAnyH_done (by kernel_rfl) ?_ _
    go_wp2
    go_end0
    exact ⟨rfl, HF.out.1, g', cap', HB.out.2.2, HF.out.2⟩

end Go.Proofs.YtmooddbhcccicaaGreatDoor
