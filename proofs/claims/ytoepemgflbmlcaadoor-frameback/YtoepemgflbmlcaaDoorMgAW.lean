/- Texts of this proof, joined: Os, Ot. -/
import Derived.Test.YtoepemgflbmlcaaDoorMgAS
import Derived.Test.YtoepemgflbmlcaaDoorMgAU
import Derived.Test.YtoepemgflbmlcaaDoorMgAV
/- frame.mayVotes. -/
namespace Go.Proofs.YtoepemgflbmlcaaDoor
set_option linter.unusedVariables false
set_option linter.unusedSimpArgs false
open Go.RowKit Go.Deep

/-- a vote that may be -/
def mayVo (v : Vo) : Bool := upTo 1152921504606846976 [v.slot, v.ballot] && mayC v.c v.nodes
def mayV (l : List Vo) : Bool := l.all mayVo
/-- a load of a part of a struct whose guard is met -/
theorem wpList_ldm {ops : Array Oper} {rest : List Oper} {op : Oper} {a : Act} {w : World} {Q : Exit → Act → World → Prop} (hw : Region.wanted op (yielded ops a.tmps) = true) (ty : TypeId) (x : Operand) (ho : op.op = .load ty x)
    (b o : Nat) (hx : a.eval x = .pointer (some ⟨b, o, none⟩)) (cs : List Value) (d : TypeDesc) (hc : w.rangeAt b o cs)
    (hu : Tryd.prog.underlying ty = some d) (hd : d.isRow = true) (hi : (Tryd.prog.info? ty).map (·.size) = some cs.length)
    (h : wpList Tryd.prog ops Q rest (a.put op.dst (.agg cs.toArray)) w) : wpList Tryd.prog ops Q (op :: rest) a w :=
  wpList_step fun K hK => by simp only [hw, if_true]; exact wp_load_mid ty x ho b o hx cs d hc hu hd hi (hK _ _ h)
theorem Lv.range {w : World} {g : Nat} {cs : List Value} (h : Lv w g cs) (o n : Nat) : w.rangeAt g o ((cs.drop o).take n) := fun j v hv => by
  have hj : j < n := by
    have := (List.getElem?_eq_some_iff.1 hv).1
    rw [List.length_take] at this
    omega
  rw [List.getElem?_take_of_lt hj, List.getElem?_drop] at hv
  exact h.cell hv

set_option maxRecDepth 100000 in
set_option maxHeartbeats 1600000 in
theorem mayVotes_ok (Z : Nat → Prop) (p : Option Addr) (n c : Nat) (l : List (Vo × Value)) (w : World) (h : Fl w Z p (vflat l)) (hv : Vn w Z l) (hg : ∀ x ∈ l, goodC x.1.c) (hn : n = l.length) (hl : n * 136 ≤ 140737488355328) :
    Calls Tryd.prog 59 #[.slice p n c] w fun e w' => e = .returned (.bool (mayV (l.map (·.1)))) ∧ Kp (fun _ => False) w w' := by
  have HF : Hid (Fl w Z p (vflat l)) := h
  have HV : Hid (Vn w Z l) := hv
  have HG : Hid (∀ x ∈ l, goodC x.1.c) := hg
  have HN : Hid (n = l.length ∧ n * 136 ≤ 140737488355328) := ⟨hn, hl⟩
  have hn9 : (n : Int) ≤ 1034834473200 := by omega
  obtain ⟨dV, hdV, hdVr⟩ := dsVote
  obtain ⟨dC, hdC, hdCr⟩ := dsCmd
  clear h hv hg hn hl
  go_enter Tryd.func59, Tryd.ntmps59
  go_wp2_with fail
  go_loopg [7] n (fun gk iv wz => ∃ k : Nat, k ≤ n ∧ gk = n - k ∧ iv = .int .i64 k ∧ Hid (Kp (fun _ => False) w wz ∧ ∀ (i : Nat) (x : Vo × Value), i < k → l[i]? = some x → mayVo x.1 = true))
  case atStart => exact ⟨0, Nat.zero_le _, rfl, rfl, Kp.refl _ _, fun i x hi => absurd hi (Nat.not_lt_zero _)⟩
  case round =>
    obtain ⟨k, hk, rfl, rfl, HR⟩ := hrel
    by_cases hlt : (k : Int) < (n : Int)
    · have hk1 : k < l.length := by have := HN.out; omega
      obtain ⟨b1, o1, rfl, r1⟩ := fl_range (HF.out.keep HR.out.1 (fun _ _ => id)) hk1
      obtain ⟨q1, d1, en1, f1, hb1⟩ := (HV.out.keep HR.out.1 (fun _ _ => id)) l[k] (List.getElem_mem hk1)
      have hgk := HG.out l[k] (List.getElem_mem hk1)
      rw [en1] at r1
      obtain ⟨v, hvv⟩ : ∃ v, v = l[k].1 := ⟨_, rfl⟩
      rw [← hvv] at r1 f1 hb1 hgk
      have HAt : Hid (∃ x, l[k]? = some x ∧ x.1 = v) := ⟨l[k], List.getElem?_eq_getElem hk1, hvv.symm⟩
      obtain ⟨nl, hnl⟩ : ∃ nl, nl = v.nodes.length := ⟨_, rfl⟩
      rw [← hnl] at r1
      have HMay : Hid (∀ u, Kp (fun _ => False) wr u → Calls Tryd.prog 23 #[.agg (cmdA v.c (.slice q1 nl d1))] u fun e w' => e = .returned (.bool (mayC v.c v.nodes)) ∧ Kp (fun _ => False) u w') := fun u ku => mayCmd_ok v.c Z q1 nl d1 v.nodes u (f1.keep ku (fun _ _ => id)) hnl (by omega) hgk.2.2
      have HR1 : Hid (wr.rangeAt b1 (o1 + k * 14) (vcell v (.slice q1 nl d1))) := r1
      have HO1 : Hid ((vcell v (.slice q1 nl d1)).toArray.all (·.oneCell') = true) := vcell_one v rfl
      have HKi : Hid (wrap64 ((k : Int) + 1) = ((k + 1 : Nat) : Int)) := (by have := HN.out; show _ = _; unfold wrap64; omega)
      have HNo : Hid (mayVo v = false → mayV (l.map (·.1)) = false) := fun hno => by
        obtain ⟨x, hx, hxv⟩ := HAt.out
        cases hq : mayV (l.map (·.1)) with
        | false => rfl
        | true =>
          have := List.all_eq_true.1 hq v (by rw [← hxv]; exact List.mem_map.2 ⟨x, List.mem_of_getElem? hx, rfl⟩)
          rw [hno] at this
          cases this
      clear r1 f1 en1 hvv hnl hb1 hk1 hgk
      go_upto_region 4 with (first
        | (refine wpList_load_mid rfl 72 _ rfl b1 (o1 + k * 14) rfl _ dV HR1.out hdV hdVr szVote ?_)
        | (refine wpList_store_all rfl 72 _ _ rfl 14 wr.heap.size zeroV (vcell v (.slice q1 nl d1)) rfl rfl (by exact Lv.new wr _ _) szVote rfl rfl HO1.out ?_; intro u2 hl2 k2))
      have ku2 : Kp (fun _ => False) wr u2 := ((Kp.refl (fun _ => False) wr).alloc (.cells zeroV.toArray 72)).trans k2 (fun b hb e => by omega)
      obtain ⟨g, hg⟩ : ∃ x, x = wr.heap.size := ⟨_, rfl⟩
      rw [← hg] at hl2 ⊢
      have HK2 : Hid (Kp (fun _ => False) wr u2) := ku2
      have HL2 : Hid (Lv u2 g (vcell v (.slice q1 nl d1))) := hl2
      have c0 : u2.cell? ⟨g, 0, none⟩ = some (.int .i64 v.slot) := hl2.cell (j := 0) rfl
      have c1 : u2.cell? ⟨g, 1, none⟩ = some (.int .i64 v.ballot) := hl2.cell (j := 1) rfl
      clear ku2 hl2 k2 hg HR1
      have HU : Hid (Calls Tryd.prog 51 #[.int .i64 1152921504606846976, .slice (some ⟨u2.heap.size, 0, none⟩) 2 2] (u2.alloc (.cells #[.int .i64 v.slot, .int .i64 v.ballot] 3)) fun e w' => e = .returned (.bool (upTo 1152921504606846976 [v.slot, v.ballot])) ∧ Kp (fun _ => False) u2 w') := allUpTo_new 1152921504606846976 [v.slot, v.ballot] 2 rfl (by decide) u2
      go_wp2_with fail
      refine HU.out.mono ?_
      rintro e9 u3 ⟨rfl, k3⟩
      have HK3 : Hid (Kp (fun _ => False) wr u3) := HK2.out.trans k3 (fun _ _ e => e)
      have HL3 : Hid (Lv u3 g (vcell v (.slice q1 nl d1))) := HL2.out.keep k3 id
      clear k3 c0 c1
      cases hU : upTo 1152921504606846976 [v.slot, v.ballot] with
      | false =>
        have HRf : Hid (mayV (l.map (·.1)) = false) := HNo.out (by unfold mayVo; rw [hU]; rfl)
        clear hU
        go_wp2_with fail
        go_ret
        exact ⟨by rw [HRf.out]; rfl, HR.out.1.trans HK3.out (fun _ _ e => e)⟩
      | true =>
        have HUt : Hid (upTo 1152921504606846976 [v.slot, v.ballot] = true) := hU
        clear hU
        go_wp2_with (refine wpList_ldm (by first | rfl | go_simp) 27 _ rfl g 2 rfl (cmdA v.c (.slice q1 nl d1)).toList dC (HL3.out.range 2 12) hdC hdCr szCmd ?_)
        refine (HMay.out u3 HK3.out).mono ?_
        rintro e9 u4 ⟨rfl, k4⟩
        have HK4 : Hid (Kp (fun _ => False) wr u4) := HK3.out.trans k4 (fun _ _ e => e)
        clear k4
        cases hM : mayC v.c v.nodes with
        | false =>
          have HRf : Hid (mayV (l.map (·.1)) = false) := HNo.out (by unfold mayVo; rw [hM, HUt.out]; rfl)
          clear hM
          go_wp2_with fail
          go_ret
          exact ⟨by rw [HRf.out]; rfl, HR.out.1.trans HK4.out (fun _ _ e => e)⟩
        | true =>
          have HRt : Hid (mayVo v = true) := by show _ = _; unfold mayVo; rw [hM, HUt.out]; rfl
          clear hM
          go_wp2_with fail
          go_roundg (n - (k + 1))
          case rel =>
            refine ⟨k + 1, by omega, rfl, by first | rw [HKi.out] | rfl | go_num, HR.out.1.trans HK4.out (fun _ _ e => e), fun i x hi hx => ?_⟩
            by_cases e : i = k
            · subst e
              obtain ⟨y, hy, hyv⟩ := HAt.out
              rw [hy] at hx
              cases hx
              rw [hyv]
              exact HRt.out
            · exact HR.out.2 i x (by omega) hx
          case measure => omega
    · have HRt : Hid (mayV (l.map (·.1)) = true) := List.all_eq_true.2 (fun v hv => by
        obtain ⟨x, hx, rfl⟩ := List.mem_map.1 hv
        obtain ⟨i, hi⟩ := List.getElem?_of_mem hx
        have := (List.getElem?_eq_some_iff.1 hi).1
        exact HR.out.2 i x (by have := HN.out; omega) hi)
      go_wp2_with fail
      go_ret
      exact ⟨by rw [HRt.out]; rfl, HR.out.1⟩
end Go.Proofs.YtoepemgflbmlcaaDoor

/- frame.mayMsg (laid by scripts/mkot.py). -/
namespace Go.Proofs.YtoepemgflbmlcaaDoor
set_option linter.unusedVariables false
set_option linter.unusedSimpArgs false
open Go.RowKit Go.Deep

/-- a message that may be -/
def mayM (μ : Ms) : Bool := decide (μ.votes.length ≤ 1000) && (decide (μ.bytes.length ≤ 2000) && (decide (1 ≤ μ.s.kind) && (decide (μ.s.kind ≤ 15) && (upTo 15 [μ.s.src, μ.s.dst] && (upTo 1152921504606846976 [μ.s.ballot, μ.s.slot, μ.s.blob, μ.s.index, μ.s.epoch, μ.s.id] && (mayC μ.s.c μ.nodes && mayV μ.votes))))))

set_option maxRecDepth 100000 in
set_option maxHeartbeats 6400000 in
theorem mayMsg_at (s : Ms0) (p pv pb : Option Addr) (n1 cp n2 cv n3 cb : Nat) (C V : Bool) (w : World) (h3 : n3 ≤ 140737488355328) (h2 : n2 * 136 ≤ 140737488355328)
    (hC : ∀ u, Kp (fun _ => False) w u → Calls Tryd.prog 23 #[.agg (cmdA s.c (.slice p n1 cp))] u fun e w' => e = .returned (.bool C) ∧ Kp (fun _ => False) u w')
    (hV : ∀ u, Kp (fun _ => False) w u → Calls Tryd.prog 59 #[.slice pv n2 cv] u fun e w' => e = .returned (.bool V) ∧ Kp (fun _ => False) u w') :
    Calls Tryd.prog 39 #[.agg (msgA s (.slice p n1 cp) (.slice pv n2 cv) (.slice pb n3 cb))] w fun e w' => e = .returned (.bool (decide (n2 ≤ 1000) && (decide (n3 ≤ 2000) && (decide (1 ≤ s.kind) && (decide (s.kind ≤ 15) && (upTo 15 [s.src, s.dst] && (upTo 1152921504606846976 [s.ballot, s.slot, s.blob, s.index, s.epoch, s.id] && (C && V)))))))) ∧ Kp (fun _ => False) w w' := by
  have HC : Hid (∀ u, Kp (fun _ => False) w u → Calls Tryd.prog 23 #[.agg (cmdA s.c (.slice p n1 cp))] u fun e w' => e = .returned (.bool C) ∧ Kp (fun _ => False) u w') := hC
  have HV : Hid (∀ u, Kp (fun _ => False) w u → Calls Tryd.prog 59 #[.slice pv n2 cv] u fun e w' => e = .returned (.bool V) ∧ Kp (fun _ => False) u w') := hV
  have hn3 : (n3 : Int) ≤ 140737488355328 := by omega
  have hn2 : (n2 : Int) ≤ 1034834473200 := by omega
  have HK : Hid (Kp (fun _ => False) w (w.alloc (.cells (msgA s (.slice p n1 cp) (.slice pv n2 cv) (.slice pb n3 cb)) 40))) := (Kp.refl _ _).alloc _
  have HL : Hid (Lv (w.alloc (.cells (msgA s (.slice p n1 cp) (.slice pv n2 cv) (.slice pb n3 cb)) 40)) w.heap.size (msgA s (.slice p n1 cp) (.slice pv n2 cv) (.slice pb n3 cb)).toList) := Lv.new w _ _
  have HU2 : Hid (∀ u : World, Calls Tryd.prog 51 #[.int .i64 15, .slice (some ⟨u.heap.size, 0, none⟩) 2 2] (u.alloc (.cells #[.int .i64 s.src, .int .i64 s.dst] 3)) fun e w' => e = .returned (.bool (upTo 15 [s.src, s.dst])) ∧ Kp (fun _ => False) u w') := fun u => allUpTo_new 15 [s.src, s.dst] 2 rfl (by decide) u
  have HU6 : Hid (∀ u : World, Calls Tryd.prog 51 #[.int .i64 1152921504606846976, .slice (some ⟨u.heap.size, 0, none⟩) 6 6] (u.alloc (.cells #[.int .i64 s.ballot, .int .i64 s.slot, .int .i64 s.blob, .int .i64 s.index, .int .i64 s.epoch, .int .i64 s.id] 3)) fun e w' => e = .returned (.bool (upTo 1152921504606846976 [s.ballot, s.slot, s.blob, s.index, s.epoch, s.id])) ∧ Kp (fun _ => False) u w') := fun u => allUpTo_new 1152921504606846976 [s.ballot, s.slot, s.blob, s.index, s.epoch, s.id] 6 rfl (by decide) u
  obtain ⟨dC, hdC, hdCr⟩ := dsCmd
  obtain ⟨B, hB⟩ : ∃ b, b = (decide (n2 ≤ 1000) && (decide (n3 ≤ 2000) && (decide (1 ≤ s.kind) && (decide (s.kind ≤ 15) && (upTo 15 [s.src, s.dst] && (upTo 1152921504606846976 [s.ballot, s.slot, s.blob, s.index, s.epoch, s.id] && (C && V))))))) := ⟨_, rfl⟩
  rw [← hB]
  have HB : Hid (B = (decide (n2 ≤ 1000) && (decide (n3 ≤ 2000) && (decide (1 ≤ s.kind) && (decide (s.kind ≤ 15) && (upTo 15 [s.src, s.dst] && (upTo 1152921504606846976 [s.ballot, s.slot, s.blob, s.index, s.epoch, s.id] && (C && V)))))))) := hB
  clear hC hV h3 h2 hB
  go_enter Tryd.func39, Tryd.ntmps39
  go_upto_region 1 with fail
  obtain ⟨u0, hu0⟩ : ∃ x, x = w.alloc (.cells (msgA s (.slice p n1 cp) (.slice pv n2 cv) (.slice pb n3 cb)) 40) := ⟨_, rfl⟩
  have hu0' := hu0.symm
  simp only [msgA] at hu0'
  rw [hu0']
  rw [← hu0] at HK HL
  clear hu0 hu0'
  obtain ⟨g, hg⟩ : ∃ x, x = w.heap.size := ⟨_, rfl⟩
  rw [← hg] at HL ⊢
  clear hg
  have hcv : u0.cell? ⟨g, 22, none⟩ = some (.slice pv n2 cv) := HL.out.cell (j := 22) rfl
  have hcb : u0.cell? ⟨g, 23, none⟩ = some (.slice pb n3 cb) := HL.out.cell (j := 23) rfl
  have c0 : u0.cell? ⟨g, 0, none⟩ = some (.int .i64 s.kind) := HL.out.cell (j := 0) rfl
  have c1 : u0.cell? ⟨g, 1, none⟩ = some (.int .i64 s.src) := HL.out.cell (j := 1) rfl
  have c2 : u0.cell? ⟨g, 2, none⟩ = some (.int .i64 s.dst) := HL.out.cell (j := 2) rfl
  have c3 : u0.cell? ⟨g, 3, none⟩ = some (.int .i64 s.ballot) := HL.out.cell (j := 3) rfl
  have c4 : u0.cell? ⟨g, 4, none⟩ = some (.int .i64 s.slot) := HL.out.cell (j := 4) rfl
  have c5 : u0.cell? ⟨g, 5, none⟩ = some (.int .i64 s.blob) := HL.out.cell (j := 5) rfl
  have c6 : u0.cell? ⟨g, 6, none⟩ = some (.int .i64 s.index) := HL.out.cell (j := 6) rfl
  have c7 : u0.cell? ⟨g, 7, none⟩ = some (.int .i64 s.epoch) := HL.out.cell (j := 7) rfl
  have c8 : u0.cell? ⟨g, 8, none⟩ = some (.int .i64 s.id) := HL.out.cell (j := 8) rfl
  by_cases t1 : n2 ≤ 1000
  case neg =>
    have t1i : ¬ (n2 : Int) ≤ 1000 := by omega
    have HR : Hid (decide (n2 ≤ 1000) = false) := decide_eq_false t1
    go_wp2_with fail
    go_ret
    exact ⟨by rw [HB.out, HR.out]; rfl, HK.out⟩
  have t1i : (n2 : Int) ≤ 1000 := by omega
  have HR1 : Hid (decide (n2 ≤ 1000) = true) := decide_eq_true t1
  by_cases t2 : n3 ≤ 2000
  case neg =>
    have t2i : ¬ (n3 : Int) ≤ 2000 := by omega
    have HR : Hid (decide (n3 ≤ 2000) = false) := decide_eq_false t2
    go_wp2_with fail
    go_ret
    exact ⟨by rw [HB.out, HR1.out, HR.out]; rfl, HK.out⟩
  have t2i : (n3 : Int) ≤ 2000 := by omega
  have HR2 : Hid (decide (n3 ≤ 2000) = true) := decide_eq_true t2
  by_cases t3 : 1 ≤ s.kind
  case neg =>
    have HR : Hid (decide (1 ≤ s.kind) = false) := decide_eq_false t3
    go_wp2_with fail
    go_ret
    exact ⟨by rw [HB.out, HR1.out, HR2.out, HR.out]; rfl, HK.out⟩
  have HR3 : Hid (decide (1 ≤ s.kind) = true) := decide_eq_true t3
  by_cases t4 : s.kind ≤ 15
  case neg =>
    have HR : Hid (decide (s.kind ≤ 15) = false) := decide_eq_false t4
    go_wp2_with fail
    go_ret
    exact ⟨by rw [HB.out, HR1.out, HR2.out, HR3.out, HR.out]; rfl, HK.out⟩
  have HR4 : Hid (decide (s.kind ≤ 15) = true) := decide_eq_true t4
  go_wp2_with fail
  refine (HU2.out u0).mono ?_
  rintro e9 u1 ⟨rfl, k1⟩
  replace HK : Hid (Kp (fun _ => False) w u1) := HK.out.trans k1 (fun _ _ e => e)
  replace HL : Hid (Lv u1 g (msgA s (.slice p n1 cp) (.slice pv n2 cv) (.slice pb n3 cb)).toList) := HL.out.keep k1 id
  clear k1 hcv hcb c0 c1 c2 c3 c4 c5 c6 c7 c8 t1 t2 t3 t4
  cases hU : upTo 15 [s.src, s.dst] with
  | false =>
    have HR : Hid (upTo 15 [s.src, s.dst] = false) := hU
    clear hU
    go_wp2_with fail
    go_ret
    exact ⟨by rw [HB.out, HR1.out, HR2.out, HR3.out, HR4.out, HR.out]; rfl, HK.out⟩
  | true =>
  have HR5 : Hid (upTo 15 [s.src, s.dst] = true) := hU
  clear hU
  have c0 : u1.cell? ⟨g, 0, none⟩ = some (.int .i64 s.kind) := HL.out.cell (j := 0) rfl
  have c1 : u1.cell? ⟨g, 1, none⟩ = some (.int .i64 s.src) := HL.out.cell (j := 1) rfl
  have c2 : u1.cell? ⟨g, 2, none⟩ = some (.int .i64 s.dst) := HL.out.cell (j := 2) rfl
  have c3 : u1.cell? ⟨g, 3, none⟩ = some (.int .i64 s.ballot) := HL.out.cell (j := 3) rfl
  have c4 : u1.cell? ⟨g, 4, none⟩ = some (.int .i64 s.slot) := HL.out.cell (j := 4) rfl
  have c5 : u1.cell? ⟨g, 5, none⟩ = some (.int .i64 s.blob) := HL.out.cell (j := 5) rfl
  have c6 : u1.cell? ⟨g, 6, none⟩ = some (.int .i64 s.index) := HL.out.cell (j := 6) rfl
  have c7 : u1.cell? ⟨g, 7, none⟩ = some (.int .i64 s.epoch) := HL.out.cell (j := 7) rfl
  have c8 : u1.cell? ⟨g, 8, none⟩ = some (.int .i64 s.id) := HL.out.cell (j := 8) rfl
  go_wp2_with fail
  refine (HU6.out u1).mono ?_
  rintro e9 u2 ⟨rfl, k1⟩
  replace HK : Hid (Kp (fun _ => False) w u2) := HK.out.trans k1 (fun _ _ e => e)
  replace HL : Hid (Lv u2 g (msgA s (.slice p n1 cp) (.slice pv n2 cv) (.slice pb n3 cb)).toList) := HL.out.keep k1 id
  clear k1 c0 c1 c2 c3 c4 c5 c6 c7 c8
  cases hU : upTo 1152921504606846976 [s.ballot, s.slot, s.blob, s.index, s.epoch, s.id] with
  | false =>
    have HR : Hid (upTo 1152921504606846976 [s.ballot, s.slot, s.blob, s.index, s.epoch, s.id] = false) := hU
    clear hU
    go_wp2_with fail
    go_ret
    exact ⟨by rw [HB.out, HR1.out, HR2.out, HR3.out, HR4.out, HR5.out, HR.out]; rfl, HK.out⟩
  | true =>
  have HR6 : Hid (upTo 1152921504606846976 [s.ballot, s.slot, s.blob, s.index, s.epoch, s.id] = true) := hU
  clear hU
  go_wp2_with (refine wpList_ldm (by first | rfl | go_simp) 27 _ rfl g 10 rfl (cmdA s.c (.slice p n1 cp)).toList dC (HL.out.range 10 12) hdC hdCr szCmd ?_)
  refine (HC.out u2 HK.out).mono ?_
  rintro e9 u3 ⟨rfl, k1⟩
  replace HK : Hid (Kp (fun _ => False) w u3) := HK.out.trans k1 (fun _ _ e => e)
  replace HL : Hid (Lv u3 g (msgA s (.slice p n1 cp) (.slice pv n2 cv) (.slice pb n3 cb)).toList) := HL.out.keep k1 id
  clear k1
  cases C with
  | false =>
    go_wp2_with fail
    go_ret
    exact ⟨by rw [HB.out, HR1.out, HR2.out, HR3.out, HR4.out, HR5.out, HR6.out]; rfl, HK.out⟩
  | true =>
  have hcv : u3.cell? ⟨g, 22, none⟩ = some (.slice pv n2 cv) := HL.out.cell (j := 22) rfl
  go_wp2_with fail
  refine (HV.out u3 HK.out).mono ?_
  rintro e9 u4 ⟨rfl, k1⟩
  replace HK : Hid (Kp (fun _ => False) w u4) := HK.out.trans k1 (fun _ _ e => e)
  clear k1
  go_wp2_with fail
  go_ret
  exact ⟨by rw [HB.out, HR1.out, HR2.out, HR3.out, HR4.out, HR5.out, HR6.out]; rfl, HK.out⟩
theorem mayMsg_ok (Z : Nat → Prop) (μ : Ms) (v : Value) (w : World) (h : Mr w Z μ v) (hg : goodM μ) : Calls Tryd.prog 39 #[v] w fun e w' => e = .returned (.bool (mayM μ)) ∧ Kp (fun _ => False) w w' := by
  obtain ⟨p, cp, pv, cv, l, pb, cb, rfl, h1, h2, h3, h4, h5, h6, h7, h8, h9⟩ := h
  have hgl : ∀ x ∈ l, goodC x.1.c := fun x hx => hg.2 x.1 (by rw [← h3]; exact List.mem_map.2 ⟨x, hx, rfl⟩)
  have := mayMsg_at μ.s p pv pb μ.nodes.length cp l.length cv μ.bytes.length cb (mayC μ.s.c μ.nodes) (mayV μ.votes) w h9 h6 (fun u ku => mayCmd_ok μ.s.c Z p μ.nodes.length cp μ.nodes u (h1.keep ku (fun _ _ => id)) rfl (by omega) hg.1.2.2) (fun u ku => by
    have := mayVotes_ok Z pv l.length cv l u (h4.keep ku (fun _ _ => id)) (h5.keep ku (fun _ _ => id)) hgl rfl h6
    rw [h3] at this
    exact this)
  have hl : l.length = μ.votes.length := by rw [← h3, List.length_map]
  rw [hl] at this ⊢
  exact this
end Go.Proofs.YtoepemgflbmlcaaDoor
