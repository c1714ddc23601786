/- Texts of this proof, joined: Os, Ox. -/
import Derived.Test.YtoepemgflbmlcaaDoorMgAS
import Derived.Test.YtoepemgflbmlcaaDoorMgAY
import Derived.Test.YtoepemgflbmlcaaDoorMgAZ
import Derived.Test.YtoepemgflbmlcaaDoorMgAW
/- frame.mayVotes. -/
namespace Go.Proofs.YtoepemgflbmlcaaDoor
set_option linter.unusedVariables false
set_option linter.unusedSimpArgs false
open Go.RowKit Go.Deep

/-- a vote that may be -/
def mayVo (v : Vo) : Bool := upTo 1152921504606846976 [v.slot, v.ballot] && mayC v.c v.nodes
def mayV (l : List Vo) : Bool := l.all mayVo
/-- a load of a part of a struct whose guard is met -/
theorem wpList_ldm {ops : Array Oper} {rest : List Oper} {op : Oper} {a : Act} {w : World} {Q : Exit → Act → World → Prop} (hw : Region.wanted op (yielded ops a.tmps) = true) (ty : TypeId) (x : Operand) (ho : op.op = .load ty x)
    (b o : Nat) (hx : a.eval x = .pointer (some ⟨b, o, none⟩)) (cs : List Value) (d : TypeDesc) (hc : w.rangeAt b o cs)
    (hu : Tryd.prog.underlying ty = some d) (hd : d.isRow = true) (hi : (Tryd.prog.info? ty).map (·.size) = some cs.length)
    (h : wpList Tryd.prog ops Q rest (a.put op.dst (.agg cs.toArray)) w) : wpList Tryd.prog ops Q (op :: rest) a w :=
  wpList_step fun K hK => by simp only [hw, if_true]; exact wp_load_mid ty x ho b o hx cs d hc hu hd hi (hK _ _ h)
theorem Lv.range {w : World} {g : Nat} {cs : List Value} (h : Lv w g cs) (o n : Nat) : w.rangeAt g o ((cs.drop o).take n) := fun j v hv => by
  have hj : j < n := by
    have := (List.getElem?_eq_some_iff.1 hv).1
    rw [List.length_take] at this
    omega
  rw [List.getElem?_take_of_lt hj, List.getElem?_drop] at hv
  exact h.cell hv

set_option maxRecDepth 100000 in
set_option maxHeartbeats 1600000 in
theorem mayVotes_ok (Z : Nat → Prop) (p : Option Addr) (n c : Nat) (l : List (Vo × Value)) (w : World) (h : Fl w Z p (vflat l)) (hv : Vn w Z l) (hg : ∀ x ∈ l, goodC x.1.c) (hn : n = l.length) (hl : n * 136 ≤ 140737488355328) :
    Calls Tryd.prog 59 #[.slice p n c] w fun e w' => e = .returned (.bool (mayV (l.map (·.1)))) ∧ Kp (fun _ => False) w w' := by
  have HF : Hid (Fl w Z p (vflat l)) := h
  have HV : Hid (Vn w Z l) := hv
  have HG : Hid (∀ x ∈ l, goodC x.1.c) := hg
  have HN : Hid (n = l.length ∧ n * 136 ≤ 140737488355328) := ⟨hn, hl⟩
  have hn9 : (n : Int) ≤ 1034834473200 := by omega
  obtain ⟨dV, hdV, hdVr⟩ := dsVote
  obtain ⟨dC, hdC, hdCr⟩ := dsCmd
  clear h hv hg hn hl
  go_enter Tryd.func59, Tryd.ntmps59
  go_wp2_with fail
  go_loopg [7] n (fun gk iv wz => ∃ k : Nat, k ≤ n ∧ gk = n - k ∧ iv = .int .i64 k ∧ Hid (Kp (fun _ => False) w wz ∧ ∀ (i : Nat) (x : Vo × Value), i < k → l[i]? = some x → mayVo x.1 = true))
  case atStart => exact ⟨0, Nat.zero_le _, rfl, rfl, Kp.refl _ _, fun i x hi => absurd hi (Nat.not_lt_zero _)⟩
  case round =>
    obtain ⟨k, hk, rfl, rfl, HR⟩ := hrel
    by_cases hlt : (k : Int) < (n : Int)
    · have hk1 : k < l.length := by have := HN.out; omega
      obtain ⟨b1, o1, rfl, r1⟩ := fl_range (HF.out.keep HR.out.1 (fun _ _ => id)) hk1
      obtain ⟨q1, d1, en1, f1, hb1⟩ := (HV.out.keep HR.out.1 (fun _ _ => id)) l[k] (List.getElem_mem hk1)
      have hgk := HG.out l[k] (List.getElem_mem hk1)
      rw [en1] at r1
      obtain ⟨v, hvv⟩ : ∃ v, v = l[k].1 := ⟨_, rfl⟩
      rw [← hvv] at r1 f1 hb1 hgk
      have HAt : Hid (∃ x, l[k]? = some x ∧ x.1 = v) := ⟨l[k], List.getElem?_eq_getElem hk1, hvv.symm⟩
      obtain ⟨nl, hnl⟩ : ∃ nl, nl = v.nodes.length := ⟨_, rfl⟩
      rw [← hnl] at r1
      have HMay : Hid (∀ u, Kp (fun _ => False) wr u → Calls Tryd.prog 23 #[.agg (cmdA v.c (.slice q1 nl d1))] u fun e w' => e = .returned (.bool (mayC v.c v.nodes)) ∧ Kp (fun _ => False) u w') := fun u ku => mayCmd_ok v.c Z q1 nl d1 v.nodes u (f1.keep ku (fun _ _ => id)) hnl (by omega) hgk.2.2
      have HR1 : Hid (wr.rangeAt b1 (o1 + k * 14) (vcell v (.slice q1 nl d1))) := r1
      have HO1 : Hid ((vcell v (.slice q1 nl d1)).toArray.all (·.oneCell') = true) := vcell_one v rfl
      have HKi : Hid (wrap64 ((k : Int) + 1) = ((k + 1 : Nat) : Int)) := (by have := HN.out; show _ = _; unfold wrap64; omega)
      have HNo : Hid (mayVo v = false → mayV (l.map (·.1)) = false) := fun hno => by
        obtain ⟨x, hx, hxv⟩ := HAt.out
        cases hq : mayV (l.map (·.1)) with
        | false => rfl
        | true =>
          have := List.all_eq_true.1 hq v (by rw [← hxv]; exact List.mem_map.2 ⟨x, List.mem_of_getElem? hx, rfl⟩)
          rw [hno] at this
          cases this
      clear r1 f1 en1 hvv hnl hb1 hk1 hgk
      go_upto_region 4 with (first
        | (refine wpList_load_mid rfl 72 _ rfl b1 (o1 + k * 14) rfl _ dV HR1.out hdV hdVr szVote ?_)
        | (refine wpList_store_all rfl 72 _ _ rfl 14 wr.heap.size zeroV (vcell v (.slice q1 nl d1)) rfl rfl (by exact Lv.new wr _ _) szVote rfl rfl HO1.out ?_; intro u2 hl2 k2))
      have ku2 : Kp (fun _ => False) wr u2 := ((Kp.refl (fun _ => False) wr).alloc (.cells zeroV.toArray 72)).trans k2 (fun b hb e => by omega)
      obtain ⟨g, hg⟩ : ∃ x, x = wr.heap.size := ⟨_, rfl⟩
      rw [← hg] at hl2 ⊢
      have HK2 : Hid (Kp (fun _ => False) wr u2) := ku2
      have HL2 : Hid (Lv u2 g (vcell v (.slice q1 nl d1))) := hl2
      have c0 : u2.cell? ⟨g, 0, none⟩ = some (.int .i64 v.slot) := hl2.cell (j := 0) rfl
      have c1 : u2.cell? ⟨g, 1, none⟩ = some (.int .i64 v.ballot) := hl2.cell (j := 1) rfl
      clear ku2 hl2 k2 hg HR1
      have HU : Hid (Calls Tryd.prog 51 #[.int .i64 1152921504606846976, .slice (some ⟨u2.heap.size, 0, none⟩) 2 2] (u2.alloc (.cells #[.int .i64 v.slot, .int .i64 v.ballot] 3)) fun e w' => e = .returned (.bool (upTo 1152921504606846976 [v.slot, v.ballot])) ∧ Kp (fun _ => False) u2 w') := allUpTo_new 1152921504606846976 [v.slot, v.ballot] 2 rfl (by decide) u2
      go_wp2_with fail
      refine HU.out.mono ?_
      rintro e9 u3 ⟨rfl, k3⟩
      have HK3 : Hid (Kp (fun _ => False) wr u3) := HK2.out.trans k3 (fun _ _ e => e)
      have HL3 : Hid (Lv u3 g (vcell v (.slice q1 nl d1))) := HL2.out.keep k3 id
      clear k3 c0 c1
      cases hU : upTo 1152921504606846976 [v.slot, v.ballot] with
      | false =>
        have HRf : Hid (mayV (l.map (·.1)) = false) := HNo.out (by unfold mayVo; rw [hU]; rfl)
        clear hU
        go_wp2_with fail
        go_ret
        exact ⟨by rw [HRf.out]; rfl, HR.out.1.trans HK3.out (fun _ _ e => e)⟩
      | true =>
        have HUt : Hid (upTo 1152921504606846976 [v.slot, v.ballot] = true) := hU
        clear hU
        go_wp2_with (refine wpList_ldm (by first | rfl | go_simp) 27 _ rfl g 2 rfl (cmdA v.c (.slice q1 nl d1)).toList dC (HL3.out.range 2 12) hdC hdCr szCmd ?_)
        refine (HMay.out u3 HK3.out).mono ?_
        rintro e9 u4 ⟨rfl, k4⟩
        have HK4 : Hid (Kp (fun _ => False) wr u4) := HK3.out.trans k4 (fun _ _ e => e)
        clear k4
        cases hM : mayC v.c v.nodes with
        | false =>
          have HRf : Hid (mayV (l.map (·.1)) = false) := HNo.out (by unfold mayVo; rw [hM, HUt.out]; rfl)
          clear hM
          go_wp2_with fail
          go_ret
          exact ⟨by rw [HRf.out]; rfl, HR.out.1.trans HK4.out (fun _ _ e => e)⟩
        | true =>
          have HRt : Hid (mayVo v = true) := by show _ = _; unfold mayVo; rw [hM, HUt.out]; rfl
          clear hM
          go_wp2_with fail
          go_roundg (n - (k + 1))
          case rel =>
            refine ⟨k + 1, by omega, rfl, by first | rw [HKi.out] | rfl | go_num, HR.out.1.trans HK4.out (fun _ _ e => e), fun i x hi hx => ?_⟩
            by_cases e : i = k
            · subst e
              obtain ⟨y, hy, hyv⟩ := HAt.out
              rw [hy] at hx
              cases hx
              rw [hyv]
              exact HRt.out
            · exact HR.out.2 i x (by omega) hx
          case measure => omega
    · have HRt : Hid (mayV (l.map (·.1)) = true) := List.all_eq_true.2 (fun v hv => by
        obtain ⟨x, hx, rfl⟩ := List.mem_map.1 hv
        obtain ⟨i, hi⟩ := List.getElem?_of_mem hx
        have := (List.getElem?_eq_some_iff.1 hi).1
        exact HR.out.2 i x (by have := HN.out; omega) hi)
      go_wp2_with fail
      go_ret
      exact ⟨by rw [HRt.out]; rfl, HR.out.1⟩
end Go.Proofs.YtoepemgflbmlcaaDoor

/- frame's cursor: truth; the votes' reading, plain. -/
namespace Go.Proofs.YtoepemgflbmlcaaDoor
set_option linter.unusedVariables false
set_option linter.unusedSimpArgs false
set_option linter.unnecessarySimpa false
open Go.RowKit Go.Deep

/-- what truth answers -/
def TrRes (Z : Nat → Prop) (r : Nat) (xs : List Nat) (e : Ending) (w' : World) : Prop := match rdTruth xs with
  | some (b, t) => e = .returned (.bool b) ∧ Cu Z w' r t
  | none => e = .panicked gaveUp

set_option maxRecDepth 100000 in
set_option maxHeartbeats 1600000 in
theorem truth_ok {Z : Nat → Prop} (r : Nat) (xs : List Nat) (w : World) (h : Cu Z w r xs) (hb : ∀ x ∈ xs, x < 256) : Calls Tryd.prog 62 #[.pointer (some ⟨r, 0, none⟩)] w fun e w' => TrRes Z r xs e w' ∧ Kp (fun b => b = r) w w' := by
  have HNn : Hid (∀ u b, b = false → Calls _ _ _ u _) := need_noB (.pointer (some ⟨r, 0, none⟩))
  have HNb : Hid (∀ u b, b = true → Calls _ _ _ u _) := need_yesB (.pointer (some ⟨r, 0, none⟩))
  cases xs with
  | nil =>
    have HT : Hid (Calls _ _ _ w _) := take_no r 1 [] w h (by decide)
    clear h hb
    go_enter Tryd.func62, Tryd.ntmps62
    go_wp2_with fail
    refine HT.out.mono ?_
    rintro e9 w9 ⟨rfl, hw9⟩
    have hw8 := hw9.symm
    subst hw8
    exact ⟨rfl, rfl, Kp.refl _ _⟩
  | cons x t =>
    have hx : x < 256 := hb x (List.mem_cons_self ..)
    have HT : Hid (Calls _ _ _ w _) := take_yes r 1 (x :: t) w h (by simp)
    have hxi : (x : Int) < 256 := by omega
    clear h hb
    go_enter Tryd.func62, Tryd.ntmps62
    go_wp2_with fail
    refine HT.out.mono ?_
    rintro e9 w1 ⟨q1, rfl, r1, c1, k1, _⟩
    obtain ⟨b1, o1, rfl, hc1⟩ := r1.cell 0 (by decide)
    have hc1' : w1.cell? ⟨b1, o1, none⟩ = some (.int .u8 (x : Int)) := hc1
    have HC1 : Hid (Cu Z w1 r t) := c1
    have HK1 : Hid (Kp (fun b => b = r) w w1) := k1
    clear HT r1 hc1 c1 k1
    by_cases h1 : x ≤ 1
    · have h1i : (x : Int) ≤ 1 := by omega
      have HV : Hid (rdTruth (x :: t) = some (x == 1, t)) := by
        show (if x ≤ 1 then some (x == 1, t) else none) = _
        rw [if_pos h1]
      go_wp2_with fail
      refine (HNb.out w1 _ (by first | rfl | simpa using h1i)).mono ?_
      rintro e9 w9 ⟨⟨v9, rfl⟩, hw9⟩
      have hw8 := hw9.symm
      subst hw8
      clear hw9
      rcases (show x = 0 ∨ x = 1 by omega) with e | e
      · subst e
        go_wp2_with fail
        go_ret
        refine ⟨?_, HK1.out⟩
        unfold TrRes
        rw [HV.out]
        exact ⟨rfl, HC1.out⟩
      · subst e
        go_wp2_with fail
        go_ret
        refine ⟨?_, HK1.out⟩
        unfold TrRes
        rw [HV.out]
        exact ⟨rfl, HC1.out⟩
    · have h1i : ¬ (x : Int) ≤ 1 := by omega
      have HV : Hid (rdTruth (x :: t) = none) := by
        show (if x ≤ 1 then some (x == 1, t) else none) = _
        rw [if_neg h1]
      go_wp2_with fail
      refine (HNn.out w1 _ (by simpa using h1i)).mono ?_
      rintro e9 w9 ⟨rfl, hw9⟩
      have hw8 := hw9.symm
      subst hw8
      refine ⟨rfl, ?_, HK1.out⟩
      unfold TrRes
      rw [HV.out]
/-- a vote as the program has it -/
def voOf (v : Vp) : Vo := ⟨v.slot, v.ballot, csOf v.c, intsOf v.c.nodes⟩
/-- what vote answers -/
def VtRes (Z : Nat → Prop) (r : Nat) (xs : List Nat) (w : World) (e : Ending) (w' : World) : Prop := match rdVote xs with
  | some (v, t) => ∃ q cap, e = .returned (.agg (vcell (voOf v) (.slice q v.c.nodes.length cap)).toArray) ∧ Fl w' (fun b => w.heap.size ≤ b ∧ b < w'.heap.size) q ((intsOf v.c.nodes).map encI) ∧ Cu Z w' r t
  | none => e = .panicked gaveUp
theorem rdVote_yes {xs t1 t2 : List Nat} {c : Cp} (h1 : seqN xs 2 = some t1) (h2 : rdCmd t1 = some (c, t2)) : rdVote xs = some (⟨seqV xs 0, seqV xs 1, c⟩, t2) := by
  unfold rdVote
  rw [seqN_nums 2 xs t1 h1]
  show (rdCmd t1).bind _ = _
  rw [h2]
  rfl
theorem rdVote_no1 {xs : List Nat} (h1 : seqN xs 2 = none) : rdVote xs = none := by
  unfold rdVote
  rw [nums_seqN 2 xs h1]
  rfl
theorem rdVote_no2 {xs t1 : List Nat} (h1 : seqN xs 2 = some t1) (h2 : rdCmd t1 = none) : rdVote xs = none := by
  unfold rdVote
  rw [seqN_nums 2 xs t1 h1]
  show (rdCmd t1).bind _ = _
  rw [h2]
  rfl
end Go.Proofs.YtoepemgflbmlcaaDoor
