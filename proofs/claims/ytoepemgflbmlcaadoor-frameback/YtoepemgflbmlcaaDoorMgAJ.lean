/- Texts of this proof, joined: Nm2, Tk. -/
import Derived.Test.YtoepemgflbmlcaaDoorMgAI
import Derived.Test.YtoepemgflbmlcaaDoorMgAA
/- The document's nums, Fine, nodes. -/
namespace Go.Proofs.YtoepemgflbmlcaaDoor
set_option linter.unusedVariables false
set_option linter.unusedSimpArgs false
open Go.RowKit Go.Deep

theorem numB_byte {n : Nat} (h : n < 9223372036854775808) : ∀ x ∈ numB n, x < 256 := fun x hx => by
  rcases List.mem_cons.1 hx with e | e
  · have := numW8 h
    omega
  · exact digs_lt _ _ x e
theorem numB_len {n : Nat} (h : n < 9223372036854775808) : (numB n).length ≤ 9 := by
  have := numW8 h
  show (_ :: digs _ _).length ≤ _
  rw [List.length_cons, digs_len]
  omega

set_option maxRecDepth 100000 in
set_option maxHeartbeats 1600000 in
theorem rnums_ok (Z : Nat → Prop) (q : Option Addr) (n c : Nat) (ns : List Nat) (w : World) (h : Fl w Z q (ns.map (fun x : Nat => Value.int .i64 (x : Int)))) (hn : n = ns.length) (hn9 : n ≤ 1000) (hs : ∀ x ∈ ns, x < 9223372036854775808) :
    Calls Tryd.prog 26 #[.slice q n c] w fun e w' => ∃ v, e = .returned v ∧ Ow w' w.heap.size v (numsB ns) ∧ Kp (fun _ => False) w w' := by
  have HF : Hid (Fl w Z q (ns.map (fun x : Nat => Value.int .i64 (x : Int)))) := h
  have HN : Hid (n = ns.length ∧ n ≤ 1000) := ⟨hn, hn9⟩
  have HS : Hid (∀ x ∈ ns, x < 9223372036854775808) := hs
  have hn9' : (n : Int) ≤ 1000 := by omega
  have HNu : Hid (∀ x : Nat, x < 9223372036854775808 → ∀ u, Calls _ _ _ u _) := fun x hx u => rnum_ok x hx u
  clear h hn hn9 hs
  go_enter Tryd.func26, Tryd.ntmps26
  go_wp2_with fail
  go_loopg [3, 8] n (fun gk bv iv wz => ∃ (k : Nat) (v1 : Value), k ≤ n ∧ gk = n - k ∧ iv = .int .i64 k ∧ v1 = bv ∧ Hid (Ow wz w.heap.size v1 (numsB (ns.take k))) ∧ Hid (Kp (fun _ => False) w wz))
  case atStart => exact ⟨0, _, Nat.zero_le _, rfl, rfl, rfl, World.ownsRow_nil _ _ _ _, Kp.refl _ _⟩
  case round =>
    obtain ⟨k, v1, hk, rfl, rfl, rfl, HO, HK⟩ := hrel
    by_cases hlt : (k : Int) < (n : Int)
    · have hkl : k < ns.length := by have := HN.out; omega
      obtain ⟨x, hx⟩ : ∃ x, ns[k]? = some x := ⟨_, List.getElem?_eq_getElem hkl⟩
      have HX9 : Hid (x < 9223372036854775808) := HS.out x (List.mem_of_getElem? hx)
      obtain ⟨b, o, rfl, hzb, hc⟩ := HF.out k (.int .i64 (x : Int)) (by rw [List.getElem?_map, hx]; rfl)
      have hc' : wr.cell? ⟨b, o + k, none⟩ = some (.int .i64 (x : Int)) := HK.out.cellv hc id
      have HX : Hid (ns[k]? = some x) := hx
      have HKi : Hid (wrap64 ((k : Int) + 1) = ((k + 1 : Nat) : Int)) := wrapK9 (by have := HN.out; omega)
      have HLe : Hid ((numsB (ns.take k)).length ≤ 9000) := by
        have h1 := numsB_len (ns.take k) (fun y hy => HS.out y (List.mem_of_mem_take hy))
        rw [List.length_take] at h1
        have := HN.out
        show _ ≤ _
        omega
      clear hc hx hkl hzb
      go_wp2_with fail
      refine (HNu.out x HX9.out wr).mono ?_
      rintro e9 w1 ⟨v2, rfl, o2, k2⟩
      obtain ⟨p2, c2, rfl, hrb⟩ := o2.src (numB_byte HX9.out)
      have HRb : Hid (Rb w1 p2 (numB x).length (numB x)) := hrb
      have HK1 : Hid (Kp (fun _ => False) w w1) := HK.out.trans k2 (fun _ _ e => e)
      have HO1 : Hid (Ow w1 w.heap.size v1 (numsB (ns.take k))) := ownsRow_keep HO.out k2 (fun _ _ => id)
      clear o2 k2 hrb
      go_wp2_with (at_builtin; refine wpList_append_bytes w1 rfl _ _ rfl w.heap.size v1 (numsB (ns.take k)) rfl HO1.out p2 (numB x).length c2 (numB x) rfl HRb.out (by have := HLe.out; have := numB_len HX9.out; omega) HK1.out.size ?_; intro v3 w3 o3 k3 b3)
      have HO3 : Hid (Ow w3 w.heap.size v3 (numsB (ns.take (k + 1)))) := by
        show Ow _ _ _ _
        rw [numsB_take HX.out]
        exact o3
      have HK3 : Hid (Kp (fun _ => False) w w3) := HK1.out.trans k3 (fun b hb e => by have := (ownBlock_lt HO1.out e).1; omega)
      clear o3 k3 b3
      go_roundg (n - (k + 1))
      case rel => exact ⟨k + 1, v3, by omega, rfl, by first | rw [HKi.out] | rfl | go_num, rfl, HO3.out, HK3.out⟩
      case measure => omega
    · have hkn : ns.take k = ns := List.take_of_length_le (by have := HN.out; omega)
      rw [hkn] at HO
      clear hkn
      go_wp2_with fail
      go_ret
      exact ⟨v1, rfl, HO.out, HK.out⟩

/-- a number from 0 to the greatest -/
def fineB (z : Int) : Bool := decide (0 ≤ z ∧ z ≤ 1152921504606846976)

set_option maxRecDepth 100000 in
set_option maxHeartbeats 800000 in
theorem rfine_ok (z : Int) (w : World) : Calls Tryd.prog 50 #[.int .i64 z] w fun e w' => e = .returned (.bool (fineB z)) ∧ w' = w := by
  by_cases h0 : (0 : Int) ≤ z
  · by_cases h1 : z ≤ 1152921504606846976
    · have HV : Hid (fineB z = true) := decide_eq_true ⟨h0, h1⟩
      go_enter Tryd.func50, Tryd.ntmps50
      go_wp2_with fail
      go_ret
      exact ⟨by rw [HV.out]; rfl, rfl⟩
    · have HV : Hid (fineB z = false) := decide_eq_false (fun h => h1 h.2)
      go_enter Tryd.func50, Tryd.ntmps50
      go_wp2_with fail
      go_ret
      exact ⟨by rw [HV.out]; rfl, rfl⟩
  · have HV : Hid (fineB z = false) := decide_eq_false (fun h => h0 h.1)
    go_enter Tryd.func50, Tryd.ntmps50
    go_wp2_with fail
    go_ret
    exact ⟨by rw [HV.out]; rfl, rfl⟩

/-- the document's word on nodes -/
def nodesB (zs : List Int) : Bool := upTo 15 zs && decide (zs.length ≤ 255)

set_option maxRecDepth 100000 in
set_option maxHeartbeats 1600000 in
theorem rnodes_ok (Z : Nat → Prop) (q : Option Addr) (n c : Nat) (zs : List Int) (w : World) (h : Fl w Z q (zs.map encI)) (hn : n = zs.length) (hn9 : n ≤ 1000000000000000) :
    Calls Tryd.prog 53 #[.slice q n c] w fun e w' => e = .returned (.bool (nodesB zs)) ∧ w' = w := by
  have HF : Hid (Fl w Z q (zs.map encI)) := h
  have HN : Hid (n = zs.length ∧ n ≤ 1000000000000000) := ⟨hn, hn9⟩
  have hn9' : (n : Int) ≤ 1000000000000000 := by omega
  clear h hn hn9
  go_enter Tryd.func53, Tryd.ntmps53
  go_wp2_with fail
  go_loopg [7] n (fun gk iv wz => ∃ k : Nat, k ≤ n ∧ gk = n - k ∧ iv = .int .i64 k ∧ w = wz ∧ Hid (∀ (i : Nat) (z : Int), i < k → zs[i]? = some z → 0 ≤ z ∧ z ≤ 15))
  case atStart => exact ⟨0, Nat.zero_le _, rfl, rfl, rfl, fun i z hi => absurd hi (Nat.not_lt_zero _)⟩
  case round =>
    obtain ⟨k, hk, rfl, rfl, rfl, HT⟩ := hrel
    by_cases hlt : (k : Int) < (n : Int)
    · have hkl : k < zs.length := by have := HN.out; omega
      obtain ⟨z, hz⟩ : ∃ z, zs[k]? = some z := ⟨_, List.getElem?_eq_getElem hkl⟩
      obtain ⟨b, o, rfl, _, hc⟩ := HF.out k (encI z) (by rw [List.getElem?_map, hz]; rfl)
      have hc' : w.cell? ⟨b, o + k, none⟩ = some (.int .i64 z) := hc
      have HZ : Hid (zs[k]? = some z) := hz
      have HKi : Hid (wrap64 ((k : Int) + 1) = ((k + 1 : Nat) : Int)) := (by have := HN.out; show _ = _; unfold wrap64; omega)
      clear hc hz hkl
      have HRf : Hid (¬ (0 ≤ z ∧ z ≤ 15) → nodesB zs = false) := fun hno => by
        cases q : nodesB zs with
        | false => rfl
        | true =>
          unfold nodesB at q
          rw [Bool.and_eq_true] at q
          exact absurd (upTo_at.1 q.1 k z HZ.out) hno
      by_cases h0 : z < 0
      · have HR : Hid (nodesB zs = false) := HRf.out (by omega)
        go_wp2_with fail
        go_ret
        exact ⟨by rw [HR.out]; rfl, rfl⟩
      · by_cases hm : (15 : Int) < z
        · have HR : Hid (nodesB zs = false) := HRf.out (by omega)
          go_wp2_with fail
          go_ret
          exact ⟨by rw [HR.out]; rfl, rfl⟩
        · have HO : Hid (0 ≤ z ∧ z ≤ 15) := ⟨by omega, by omega⟩
          go_wp2_with fail
          go_roundg (n - (k + 1))
          case rel =>
            refine ⟨k + 1, by omega, rfl, by first | rw [HKi.out] | rfl | go_num, rfl, fun i y hi hy => ?_⟩
            by_cases e : i = k
            · subst e
              rw [HZ.out] at hy
              cases hy
              exact HO.out
            · exact HT.out i y (by omega) hy
          case measure => omega
    · have HU : Hid (upTo 15 zs = true) := upTo_at.2 (fun i z hz => HT.out i z (by have := HN.out; have := (List.getElem?_eq_some_iff.1 hz).1; omega) hz)
      by_cases hl : (n : Int) ≤ 255
      · have HR : Hid (nodesB zs = true) := by
          show _ = _
          unfold nodesB
          rw [HU.out, decide_eq_true (show zs.length ≤ 255 by have := HN.out; omega)]
          rfl
        go_wp2_with fail
        go_ret
        exact ⟨by rw [HR.out]; rfl, rfl⟩
      · have HR : Hid (nodesB zs = false) := by
          show _ = _
          unfold nodesB
          rw [HU.out, decide_eq_false (show ¬ zs.length ≤ 255 by have := HN.out; omega)]
          rfl
        go_wp2_with fail
        go_ret
        exact ⟨by rw [HR.out]; rfl, rfl⟩
end Go.Proofs.YtoepemgflbmlcaaDoor

/- Regions that draw their order: many operations that read are taken at once. -/
namespace Go.Proofs.YtoepemgflbmlcaaDoor
open Go.RowKit Go.Deep

section
variable {P : Program} {md : Region.Mode} {ops : Array Oper} {Q : Exit → Act → World → Prop} {S : World → Prop}
/-- these may be taken first, in this order -/
def takeB (md : Region.Mode) (ops : Array Oper) : List Nat → Array Bool → Bool
  | [], _ => true
  | i :: is, listed => (Region.ready md ops listed).contains i && (Region.free md ops listed i && takeB md ops is (listed.setIfInBounds i true))
def mark : List Nat → Array Bool → Array Bool
  | [], listed => listed
  | i :: is, listed => mark is (listed.setIfInBounds i true)
/-- each of these yields its value in every world of which S holds -/
def wpTake (P : Program) (ops : Array Oper) (S : World → Prop) (K : Act → Prop) : List Nat → Act → Prop
  | [], a => K a
  | i :: is, a => ∃ o v, ops[i]? = some o ∧ YieldsIf P ops S o v a ∧ wpTake P ops S K is (a.put o.dst v)
theorem wpTake_cons {K : Act → Prop} {i : Nat} {is : List Nat} {o : Oper} {v : Value} {a : Act} (hi : ops[i]? = some o) (hy : YieldsIf P ops S o v a) (h : wpTake P ops S K is (a.put o.dst v)) : wpTake P ops S K (i :: is) a := ⟨o, v, hi, hy, h⟩
theorem wpTake_nil {K : Act → Prop} {a : Act} (h : K a) : wpTake P ops S K [] a := h
theorem wpAnyH_takes {w : World} (hs : Region.noSelect ops = true) (hQ : ∀ d v c a w, Q (.panic c) (a.put d v) w → Q (.panic c) a w) (hS : S w) :
    ∀ (is : List Nat) (fuel : Nat) (listed : Array Bool) (a : Act), takeB md ops is listed = true → wpTake P ops S (fun a' => wpAnyH P md ops Q S fuel (mark is listed) a' w) is a → wpAnyH P md ops Q S (fuel + is.length) listed a w
  | [], fuel, listed, a, _, h => h
  | i :: is, fuel, listed, a, hB, h => by
    obtain ⟨o, v, hi, hy, h⟩ := h
    simp only [takeB, Bool.and_eq_true] at hB
    show wpAnyH P md ops Q S ((fuel + is.length) + 1) listed a w
    exact wpAnyH_take hi hs hB.2.1 hB.1 (fun c a w => hQ _ _ c a w) hy hS (wpAnyH_takes hs hQ hS is fuel _ _ hB.2.2 h)
/-- an operation without what it waits for -/
def bare (o : Oper) : Oper := { o with after := #[], pos := "" }
theorem exec_bare (ev : Operand → Value) (o : Oper) : execOp ev (bare o) = execOp ev o := by cases o; rfl
/-- as wpTake, of operations written out -/
def wpTk (P : Program) (S : World → Prop) (K : Act → Prop) : List Oper → Act → Prop
  | [], a => K a
  | o :: l, a => ∃ v, (∀ w, S w → (execOp a.eval o).run P w = .ok (.value v) w) ∧ wpTk P S K l (a.put o.dst v)
theorem wpTk_cons {K : Act → Prop} {o : Oper} {l : List Oper} {a : Act} (v : Value) (hy : ∀ w, S w → (execOp a.eval o).run P w = .ok (.value v) w) (h : wpTk P S K l (a.put o.dst v)) : wpTk P S K (o :: l) a := ⟨v, hy, h⟩
theorem wpTk_nil {K : Act → Prop} {a : Act} (h : K a) : wpTk P S K [] a := h
theorem wpTake_of_tk {K : Act → Prop} : ∀ (is : List Nat) (os : List Oper) (a : Act), is.map (fun i => (ops[i]?).map bare) = os.map some → os.all (·.guard.isNone) = true → wpTk P S K os a → wpTake P ops S K is a
  | [], [], a, _, _, h => h
  | [], _ :: _, _, h, _, _ => by cases h
  | _ :: _, [], _, h, _, _ => by cases h
  | i :: is, o :: os, a, h, hg, hw => by
    simp only [List.map_cons, List.cons.injEq] at h
    obtain ⟨h1, h2⟩ := h
    obtain ⟨o', ho', rfl⟩ := Option.map_eq_some_iff.1 h1
    simp only [List.all_cons, Bool.and_eq_true, Option.isNone_iff_eq_none] at hg
    obtain ⟨v, hy, hw⟩ := hw
    have hgo : o'.guard = none := hg.1
    refine ⟨o', v, ho', Or.inl ⟨by unfold Region.wanted; rw [hgo], fun w hS => ?_⟩, wpTake_of_tk is os _ h2 hg.2 hw⟩
    have := hy w hS
    rwa [exec_bare] at this
theorem wpAnyH_tk {w : World} (hs : Region.noSelect ops = true) (hQ : ∀ d v c a w, Q (.panic c) (a.put d v) w → Q (.panic c) a w) (hS : S w)
    (is : List Nat) (os : List Oper) (fuel : Nat) (listed : Array Bool) (a : Act) (ho : is.map (fun i => (ops[i]?).map bare) = os.map some) (hg : os.all (·.guard.isNone) = true) (hB : takeB md ops is listed = true)
    (h : ∀ K : Act → Prop, Shut (∀ a', wpAnyH P md ops Q S fuel (mark is listed) a' w → K a') → wpTk P S K os a) : wpAnyH P md ops Q S (fuel + is.length) listed a w :=
  wpAnyH_takes hs hQ hS is fuel listed a hB (wpTake_of_tk is os a ho hg (h _ (fun _ h => h)))
theorem act_put (a : Act) (d : Nat) (v : Value) (hd : d < a.tmps.size) : (a.put (some d) v).tmps.size = a.tmps.size ∧ (a.put (some d) v).defers = a.defers ∧ (a.put (some d) v).eval (.tmp d) = v ∧ ∀ t, t ≠ d → (a.put (some d) v).eval (.tmp t) = a.eval (.tmp t) := by
  refine ⟨by simp [Act.put], rfl, ?_, fun t ht => ?_⟩
  · show (a.tmps.setIfInBounds d v).getD d undef = v
    simp [hd]
  · show (a.tmps.setIfInBounds d v).getD t undef = a.tmps.getD t undef
    simp [Array.getElem?_setIfInBounds_ne (fun e => ht e.symm)]
theorem wpTk_step {K : Act → Prop} {o : Oper} {l : List Oper} {a : Act} (d : Nat) (v : Value) (ho : o.dst = some d) (hd : d < a.tmps.size) (hy : ∀ w, S w → (execOp a.eval o).run P w = .ok (.value v) w)
    (h : ∀ a' : Act, a'.tmps.size = a.tmps.size → a'.defers = a.defers → a'.eval (.tmp d) = v → (∀ t, t ≠ d → a'.eval (.tmp t) = a.eval (.tmp t)) → wpTk P S K l a') : wpTk P S K (o :: l) a := by
  obtain ⟨h1, h2, h3, h4⟩ := act_put a d v hd
  exact ⟨v, hy, by rw [ho]; exact h _ h1 h2 h3 h4⟩
theorem wp_bare (o : Oper) (a : Act) (w : World) (K : Act → World → Prop) : Oper.wp P (bare o) a w K Q = Oper.wp P o a w K Q := by cases o; rfl
/-- the one operation that may come up is run -/
theorem wpAnyH_one {i fuel : Nat} {listed : Array Bool} {a : Act} {w : World} (o : Oper) (hr : Region.ready md ops listed = [i]) (ho : (ops[i]?).map bare = some o) (hg : o.guard = none)
    (h : ∀ K' : Act → World → Prop, Shut (∀ a' w', S w' → wpAnyH P md ops Q S fuel (listed.setIfInBounds i true) a' w' → K' a' w') → Oper.wp P o a w K' Q) : wpAnyH P md ops Q S (fuel + 1) listed a w := by
  obtain ⟨o', ho', rfl⟩ := Option.map_eq_some_iff.1 ho
  refine wpAnyH_ready hr (by simp) (AllReadyH.cons ho' (fun K' hK => ?_) AllReadyH.nil)
  have hgo : o'.guard = none := hg
  rw [if_pos (by unfold Region.wanted; rw [hgo])]
  have := h K' (fun a' w' hS hW => hK.out a' w' hS (fun _ => hW))
  rwa [wp_bare] at this
/-- the one operation that may come up yields v -/
theorem wpAnyH_run {i fuel : Nat} {listed : Array Bool} {a : Act} {w : World} (o : Oper) (d : Option Tmp) (v : Value) (w1 : World) (hr : Region.ready md ops listed = [i]) (ho : (ops[i]?).map bare = some o) (hg : o.guard = none) (hd : o.dst = d)
    (hrun : (execOp a.eval o).run P w = .ok (.value v) w1) (hS : S w1) (h : wpAnyH P md ops Q S fuel (listed.setIfInBounds i true) (a.put d v) w1) : wpAnyH P md ops Q S (fuel + 1) listed a w := by
  refine wpAnyH_one o hr ho hg (fun K' hK => ?_)
  unfold Oper.wp
  rw [hrun, Oper.upon_value, hd]
  exact hK.out _ _ hS h
theorem wpAnyH_skip {i fuel : Nat} {listed : Array Bool} {a : Act} {w : World} (o : Oper) (w1 : World) (hr : Region.ready md ops listed = [i]) (ho : (ops[i]?).map bare = some o) (hg : o.guard = none) (hd : o.dst = none)
    (hrun : (execOp a.eval o).run P w = .ok .skip w1) (hS : S w1) (h : wpAnyH P md ops Q S fuel (listed.setIfInBounds i true) a w1) : wpAnyH P md ops Q S (fuel + 1) listed a w := by
  refine wpAnyH_one o hr ho hg (fun K' hK => ?_)
  unfold Oper.wp
  rw [hrun, Oper.upon_skip, hd]
  exact hK.out _ _ hS h
/-- one of two operations comes up -/
theorem wpAnyH_two {i j fuel : Nat} {listed : Array Bool} {a : Act} {w : World} (o : Oper) (o2 : Oper) (hr : Region.ready md ops listed = [i, j]) (ho : (ops[i]?).map bare = some o) (ho2 : (ops[j]?).map bare = some o2) (hg : o.guard = none) (hg2 : o2.guard = none)
    (h : ∀ K' : Act → World → Prop, Shut (∀ a' w', S w' → wpAnyH P md ops Q S fuel (listed.setIfInBounds i true) a' w' → K' a' w') → Oper.wp P o a w K' Q)
    (h2 : ∀ K' : Act → World → Prop, Shut (∀ a' w', S w' → wpAnyH P md ops Q S fuel (listed.setIfInBounds j true) a' w' → K' a' w') → Oper.wp P o2 a w K' Q) : wpAnyH P md ops Q S (fuel + 1) listed a w := by
  obtain ⟨o', ho', rfl⟩ := Option.map_eq_some_iff.1 ho
  obtain ⟨o2', ho2', rfl⟩ := Option.map_eq_some_iff.1 ho2
  have hgo : o'.guard = none := hg
  have hgo2 : o2'.guard = none := hg2
  refine wpAnyH_ready hr (by simp) (AllReadyH.cons ho' (fun K' hK => ?_) (AllReadyH.cons ho2' (fun K' hK => ?_) AllReadyH.nil))
  · rw [if_pos (by unfold Region.wanted; rw [hgo])]
    have := h K' (fun a' w' hS hW => hK.out a' w' hS (fun _ => hW))
    rwa [wp_bare] at this
  · rw [if_pos (by unfold Region.wanted; rw [hgo2])]
    have := h2 K' (fun a' w' hS hW => hK.out a' w' hS (fun _ => hW))
    rwa [wp_bare] at this
theorem wp_value {o : Oper} {a : Act} {w w1 : World} {K : Act → World → Prop} {v : Value} (hrun : (execOp a.eval o).run P w = .ok (.value v) w1) (h : K (a.put o.dst v) w1) : Oper.wp P o a w K Q := by
  unfold Oper.wp
  rw [hrun, Oper.upon_value]
  exact h
end
end Go.Proofs.YtoepemgflbmlcaaDoor
