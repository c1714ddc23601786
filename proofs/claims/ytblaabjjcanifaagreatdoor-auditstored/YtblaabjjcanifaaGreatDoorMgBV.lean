/- Texts of this proof, joined: Iu, Jrm. -/
import Derived.Test.YtblaabjjcanifaaGreatDoorMgBU
import Derived.Test.YtblaabjjcanifaaGreatDoorMgAD
import Derived.Lib.MinMax
import Derived.Test.YtblaabjjcanifaaGreatDoorMgBA
import Derived.Test.YtblaabjjcanifaaGreatDoorMgBQ
/- Drawn regions that clone bytes and append to the copies. -/
namespace Go.Proofs.YtblaabjjcanifaaGreatDoor
set_option linter.unusedVariables false
set_option linter.unusedSimpArgs false
open Go.RowKit Go.Deep

theorem step_runO {P : Program} {Q : Exit → Act → World → Prop} {o : Oper} {a : Act} {w w' : World} {d : Nat} {v : Value} {K : Act → World → Prop} (hd : o.dst = some d) (hrun : (execOp a.eval o).run P w = .ok (.value v) w') (hK : K (a.put (some d) v) w') : Oper.wp P o a w K Q := by
  unfold Oper.wp
  rw [hrun, Oper.upon_value, hd]
  exact hK
theorem slice_firstO (p : Option Addr) (n c r : Nat) (hr : r ≤ c) (w : World) :
    (Instr.slice 22 (.slice p n c) none (some (.int .i64 (r : Int))) none).run Tryz.prog w = .ok (.slice p r c) w := by
  have h : (Instr.slice 22 (.slice p n c) none (some (.int .i64 (r : Int))) none).run Tryz.prog w = .ok (.slice (if c = 0 then p else p.map (·.add (0 * 1))) (r - 0) (c - 0)) w := by
    obtain ⟨i, hi, hz⟩ := Option.map_eq_some_iff.1 info5
    simp only [Prod.mk.injEq] at hz
    obtain ⟨hz, hs, hb⟩ := hz
    have h2 : (0 : Int) ≤ r ∧ (r : Int) ≤ (c : Int) := by omega
    simp [Instr.slice, Instr.sliceBounds, Instr.sliceBound, asIntOf, run_underlying Tryz.underlying22, sizeOf, typeInfo, hi, hr]
  rw [h]
  cases p <;> simp [Addr.add]

/-- what an operation yields: a value that is known, or bytes of one's own -/
inductive Kd where
  | eq (u : Value)
  | ow (xs : List Nat)
def Kd.R (base : Nat) : Kd → Value → World → Prop
  | .eq u, v, _ => v = u
  | .ow xs, v, w => Ow w base v xs
def Kd.Bl : Kd → Value → Option Nat
  | .eq _, _ => none
  | .ow _, v => v.ownBlock
theorem Kd.keep {base : Nat} {kd : Kd} {v : Value} {w w' : World} {S : Nat → Prop} (h : kd.R base v w) (k : Kp S w w') (hS : ∀ g, kd.Bl v = some g → ¬ S g) : kd.R base v w' := by
  cases kd with
  | eq u => exact h
  | ow xs => exact ownsRow_keep (show Ow w base v xs from h) k hS
section
variable {Q : Exit → Act → World → Prop} {K : Act → World → Prop} {S : Nat → Prop} {base : Nat} {o : Oper} {a : Act} {w : World} {d : Nat} {kd : Kd}
/-- a step that does not touch the world -/
theorem owr_eq {X : Prop} {C : Nat → Prop} (hd : o.dst = some d) {v u : Value} (hkd : kd = .eq u) (hrun : (execOp a.eval o).run Tryz.prog w = .ok (.value v) w) (hv : v = u)
    (hK : Shut (∀ v w', Kp S w w' → kd.R base v w' → (∀ g, kd.Bl v = some g → C g ∨ (w.heap.size ≤ g ∧ g < w'.heap.size)) → K (a.put (some d) v) w')) : Oper.wp Tryz.prog o a w K Q := by
  subst hkd
  exact step_runO hd hrun (hK.out v w (Kp.refl _ _) hv (fun g hg => by cases hg))
/-- bytes.Clone -/
theorem owr_clone {C : Nat → Prop} (hd : o.dst = some d) (p : Option Addr) (n c : Nat) (xs : List Nat) (hkd : kd = .ow xs) (hrun : (execOp a.eval o).run Tryz.prog w = .ok (.enter 4 #[.slice p n c]) w) (hr : Rb w p n xs) (hn : n ≤ 140737488355328) (hb : base ≤ w.heap.size)
    (hK : Shut (∀ v w', Kp S w w' → kd.R base v w' → (∀ g, kd.Bl v = some g → C g ∨ (w.heap.size ≤ g ∧ g < w'.heap.size)) → K (a.put (some d) v) w')) : Oper.wp Tryz.prog o a w K Q := by
  subst hkd
  refine wp_enter hrun (clone_any p n c xs w hr hn) ?_
  rintro e9 w9 ⟨v, rfl, k9, o9⟩
  refine ⟨v, rfl, ?_⟩
  rw [hd]
  exact hK.out v w9 (k9.mono (fun _ _ e => e.elim)) (ownsRow_base o9 hb) (fun g hg => Or.inr (ownBlock_lt o9 hg))
/-- a slice of one byte -/
theorem owr_one {C : Nat → Prop} (hd : o.dst = some d) (x : Nat) (hkd : kd = .ow [x]) (hrun : (execOp a.eval o).run Tryz.prog w = .ok (.value (.slice (some ⟨w.heap.size, 0, none⟩) 1 1)) (w.alloc (.cells #[.int .u8 (x : Int)] 5))) (hb : base ≤ w.heap.size)
    (hK : Shut (∀ v w', Kp S w w' → kd.R base v w' → (∀ g, kd.Bl v = some g → C g ∨ (w.heap.size ≤ g ∧ g < w'.heap.size)) → K (a.put (some d) v) w')) : Oper.wp Tryz.prog o a w K Q := by
  subst hkd
  have ho : Ow (w.alloc (.cells #[.int .u8 (x : Int)] 5)) w.heap.size (.slice (some ⟨w.heap.size, 0, none⟩) 1 1) [x] := ⟨rfl, .inr ⟨w.heap.size, 1, #[.int .u8 (x : Int)], rfl, Nat.le_refl _, heap_alloc_new w _, Nat.le_refl _, by unfold maxLen; omega, rfl, rfl⟩⟩
  refine step_runO hd hrun (hK.out _ _ (Kp.mono (S := fun _ => False) ((Kp.refl _ _).alloc _) (fun _ _ e => False.elim e)) (ownsRow_base ho hb) (fun g hg => Or.inr (ownBlock_lt ho hg)))
/-- append -/
theorem owr_app {o : Oper} {C : Nat → Prop} (hd : o.dst = some d) (hgd : o.guard = none) (s y : Operand) (ho : o.op = .call { callee := .builtin .append, args := #[s, y], argTypes := #[22, 22] }) (xs ys : List Nat) (hkd : kd = .ow (xs ++ ys)) (v u : Value) (hs : a.eval s = v) (hy : a.eval y = u) (h1 : Ow w base v xs) (h2 : Ow w base u ys) (hyb : ∀ x ∈ ys, x < 256) (hlen : xs.length + ys.length ≤ 140737488355328) (hb : base ≤ w.heap.size) (hS : ∀ b, v.ownBlock = some b → S b ∧ C b)
    (hK : Shut (∀ v w', Kp S w w' → kd.R base v w' → (∀ g, kd.Bl v = some g → C g ∨ (w.heap.size ≤ g ∧ g < w'.heap.size)) → K (a.put (some d) v) w')) : Oper.wp Tryz.prog o a w K Q := by
  subst hkd
  obtain ⟨p, c, rfl, hc, hr, _⟩ := h2.rb hyb
  have h := step_append_bytes (ops := #[]) (E := True) (Q := Q) (K := K) (o := o) (a := a) w hgd s y ho base v xs hs h1 p ys.length c ys hy hr hlen hb (fun v' w' o' k' hb' => by
    rw [hd]
    refine hK.out v' w' (k'.mono (fun b _ e => (hS b e).1)) o' (fun g hg => ?_)
    rcases hb' with e | e
    · exact Or.inl (hS g (e ▸ hg)).2
    · refine Or.inr ?_
      have e2 : w.heap.size = g := Option.some.inj (e.symm.trans hg)
      have := (ownBlock_lt o' hg).2
      omega)
  rwa [if_pos (by simp [Region.wanted, hgd])] at h
/-- what is handed on -/
theorem owr_move {C : Nat → Prop} (hd : o.dst = some d) (xs : List Nat) (hkd : kd = .ow xs) (v : Value) (hrun : (execOp a.eval o).run Tryz.prog w = .ok (.value v) w) (h1 : Ow w base v xs) (hC : ∀ b, v.ownBlock = some b → C b)
    (hK : Shut (∀ v w', Kp S w w' → kd.R base v w' → (∀ g, kd.Bl v = some g → C g ∨ (w.heap.size ≤ g ∧ g < w'.heap.size)) → K (a.put (some d) v) w')) : Oper.wp Tryz.prog o a w K Q := by
  subst hkd
  exact step_runO hd hrun (hK.out v w (Kp.refl _ _) h1 (fun g hg => Or.inl (hC g hg)))
end
end Go.Proofs.YtblaabjjcanifaaGreatDoor

/- AuditStored. -/
namespace Go.Proofs.YtblaabjjcanifaaGreatDoor
set_option linter.unusedVariables false
set_option linter.unusedSimpArgs false
open Go.RowKit Go.Deep Go.Maps

/-- a plate of a log's image: the log's plate once more -/
theorem lc_image {w w' : World} {g bp d m gf s a b c e lt y b2 d2 m2 : Nat} {recs : List (List Nat)} {dur dur2 : List Nat} (h : Lg w g bp d m gf s 0 a b c e lt y recs dur (fun _ => none)) (p : Pt w' b2 d2 m2 (2 + s) 0 dur2 (fun _ => none)) (hs : ∀ r, r < 2 + s → secOf dur2 r = secOf dur r) (ht : ¬ 0 = d2 ∧ ¬ 0 = m2) :
    Lc w' b2 d2 m2 s 0 a b c e recs.length recs dur2 (fun _ => none) (nowOf dur2 (fun _ => none)) := by
  have hf : nowOf dur (fun _ => none) = nowOf dur2 (fun _ => none) := by
    funext j
    show (dur.drop (j * 64)).take 64 = (dur2.drop (j * 64)).take 64
    by_cases hj : j < 2 + s
    · exact (hs j hj).symm
    · rw [List.drop_eq_nil_of_le (by rw [h.pt.len]; omega), List.drop_eq_nil_of_le (by rw [p.len]; omega)]
  have hlg := h.lg
  rw [hf] at hlg
  exact ⟨p, Aft.same hlg, Nat.zero_le _, h.s1, h.cs, h.a1, h.b1, h.e1, ht, Nat.le_refl _, fun _ _ => rfl⟩
theorem held_hd8 {u : World} {Z : Nat → Prop} {sh mp g : Nat} {h : List Rc} (x : Sk u Z sh mp g h) :
    Calls Tryz.prog 24 #[.pointer (some ⟨sh, 0, none⟩)] u fun e u' => ∃ p c rs ss, e = .returned (.slice p rs.length c) ∧ Kp (fun _ => False) u u' ∧ Hd u' p rs ∧ Ths h ss ∧ rs = hldL h (srt3 ss) ∧ rs.length ≤ 1000 := by
  refine (held_ok x).mono ?_
  rintro e u' ⟨v, ps, ss, rfl, k, hh, ht, he⟩
  obtain ⟨p, c, ev, hz⟩ := hh.hd
  refine ⟨p, c, ps.map Prod.fst, ss, by rw [ev], k, hz, ht, he, ?_⟩
  rw [he]
  have h2 : (hldL h (srt3 ss)).length ≤ (srt3 ss).length := List.length_filterMap_le _ _
  have h3 := ht.len x
  rw [srt3_len] at h2
  omega

set_option maxRecDepth 100000 in
set_option maxHeartbeats 1600000 in
theorem shards_ok {w : World} {g bp d m gf s a b c e lt y t cap : Nat} {hh : List Rc} {dur : List Nat} (h : Lg w g bp d m gf s 0 a b c e lt y (hh.map wrS) dur (fun _ => none)) (hcn : ∀ r ∈ hh, Cn r) (hn : hh.length ≤ 1000) (ha : a < 1152921504606846976) (hb : b < 1152921504606846976) (htx : Tx w (some ⟨t, 0, none⟩) (2 + s) (secOf dur)) (ht : Turns w) :
    Calls Tryz.prog 9 #[.slice (some ⟨t, 0, none⟩) (2 + s) cap] w fun e9 w' => ∃ pr cr rs ss, e9 = .returned (.tuple #[.slice pr rs.length cr, .int .i64 0]) ∧ Kp (fun _ => False) w w' ∧ Hd w' pr rs ∧ Ths hh ss ∧ rs = hldL hh (srt3 ss) ∧ rs.length ≤ 1000 := by
  have hs2 := h.s2
  have HOf : Hid (Calls _ _ _ w _) := plateOf_any (c := cap) htx (by omega)
  have HG : Hid (good (2 + s) (secOf dur)) := ⟨by omega, by omega, fun r hr => secOf_len h.pt.len hr⟩
  have HL : Hid (Lg w g bp d m gf s 0 a b c e lt y (hh.map wrS) dur (fun _ => none)) := h
  have HC : Hid ((∀ r ∈ hh, Cn r) ∧ hh.length ≤ 1000 ∧ a < 1152921504606846976 ∧ b < 1152921504606846976 ∧ Turns w ∧ (0 : Nat) < w.heap.size) := ⟨hcn, hn, ha, hb, ht, World.block_lt_of_cell? _ _ (ht 0 (by decide))⟩
  obtain ⟨n, hnn⟩ : ∃ n, n = 2 + s := ⟨_, rfl⟩
  have HN : Hid (n = 2 + s) := hnn
  rw [← hnn] at HOf HG
  rw [← hnn]
  clear h hcn hn ha hb htx ht hs2 hnn
  go_enter Tryz.func9, Tryz.ntmps9
  go_wp2_with fail
  refine HOf.out.mono ?_
  rintro e9 w1 ⟨k1, ⟨hno, _⟩ | ⟨_, b2, d2, m2, dur2, rfl, hb2, hd2, hm2, p2, hs2⟩⟩
  · exact absurd HG.out hno
  have hlc : Lc w1 b2 d2 m2 s 0 a b c e (hh.map wrS).length (hh.map wrS) dur2 (fun _ => none) (nowOf dur2 (fun _ => none)) := by
    have hN := HN.out
    subst hN
    have h1 := HC.out.2.2.2.2.2
    exact lc_image HL.out p2 hs2 ⟨by omega, by omega⟩
  obtain ⟨k9, hk1, hk2, hop⟩ := sopen_any hlc HC.out.1 HC.out.2.1 HC.out.2.2.1 HC.out.2.2.2.1 (fun j hj => k1.cellv (HC.out.2.2.2.2.1 j hj) id)
  have hk : k9 = hh.length := by rw [List.length_map] at hk1; omega
  subst hk
  rw [List.take_length] at hop
  have HOp : Hid (Calls _ _ _ w1 _) := hop
  have HK1 : Hid (Kp (fun _ => False) w w1 ∧ w.heap.size ≤ d2 ∧ w.heap.size ≤ m2) := ⟨k1, hd2, hm2⟩
  clear k1 hb2 hd2 hm2 p2 hs2 hlc hk1 hk2 hop HOf HG HL HC HN
  go_wp2_with fail
  refine HOp.out.mono ?_
  rintro e9 w2 ⟨sh2, mp2, g2, gf2, dur3, N2, rfl, k2, _, _, s2⟩
  have HHe : Hid (Calls _ _ _ w2 _) := held_hd8 s2.sk
  have HK2 : Hid (Kp (fun _ => False) w w2) := HK1.out.1.trans k2 (fun b hb9 e9 => by
    have e' : b = d2 ∨ b = m2 := e9
    have := HK1.out
    omega)
  clear k2 s2 HOp HK1
  go_wp2_with fail
  refine HHe.out.mono ?_
  rintro e9 w3 ⟨pr, cr, rs, ss, rfl, k3, h3, t3, r3, l3⟩
  have HF : Hid (Kp (fun _ => False) w w3 ∧ Hd w3 pr rs ∧ Ths hh ss ∧ rs = hldL hh (srt3 ss) ∧ rs.length ≤ 1000) := ⟨HK2.out.trans k3 (fun _ _ e => e), h3, t3, r3, l3⟩
  obtain ⟨R, hR⟩ : ∃ R, R = rs.length := ⟨_, rfl⟩
  have HR : Hid (R = rs.length) := hR
  rw [← hR]
  clear k3 h3 t3 r3 l3 HHe hR
  go_wp2
  go_ret2
  exact ⟨pr, cr, rs, ss, by rw [← HR.out]; rfl, HF.out.1, HF.out.2.1, HF.out.2.2⟩

set_option maxRecDepth 100000 in
theorem ssync_lg {w : World} {Z : Nat → Prop} {sh mp g bp d m gf s a b c e y : Nat} {dur : List Nat} {h : List Rc} (x : Shf w Z sh mp g bp d m gf s a b c e y dur h) :
    Calls Tryz.prog 8 #[.pointer (some ⟨sh, 0, none⟩)] w fun e9 w' => e9 = .returned (.int .i64 0) ∧ Kp (fun b => b = d ∨ b = m) w w' ∧ ∃ dur' lt, Lg w' g bp d m gf s 0 a b c e lt h.length (h.map wrS) dur' (fun _ => none) := by
  obtain ⟨q, lt, T, hl⟩ := x.lg
  have c0 : w.cell? ⟨sh, 0, none⟩ = some (.pointer (some ⟨g, 0, none⟩)) := x.sk.l.cell (j := 0) rfl
  have HM : Hid (Calls _ _ _ w _) := smade_ok c0
  have HL : Hid (Calls _ _ _ w _) := lg_sync hl
  rw [List.length_map] at HL
  clear x hl
  go_enter Tryz.func8, Tryz.ntmps8
  go_wp2_with fail
  refine HM.out.mono ?_
  rintro e9 w9 ⟨rfl, hw9⟩
  have hw8 := hw9.symm
  subst hw8
  clear hw9 HM
  go_wp2_with fail
  refine HL.out.mono ?_
  rintro e9 w9 ⟨rfl, k9, l9⟩
  have HE : Hid (Kp (fun b => b = d ∨ b = m) _ w9 ∧ Lg w9 g bp d m gf s 0 a b c e lt h.length (h.map wrS) _ (fun _ => none)) := ⟨k9, l9⟩
  clear k9 l9 HL
  go_wp2
  go_ret
  exact ⟨rfl, HE.out.1, _, _, HE.out.2⟩
/-- what is held of one shard alone -/
theorem hld_one {b i : Nat} {xs : List Nat} {ss : List K3} (hg : GoodR ⟨1, b, i, 0, xs⟩) (hb : b ≤ 1152921504606846976) (hi : i ≤ 1152921504606846976) (h : Ths [⟨1, b, i, 0, xs⟩] ss) : hldL [⟨1, b, i, 0, xs⟩] (srt3 ss) = [⟨1, b, i, 0, xs⟩] := by
  have hst : (stS [⟨1, b, i, 0, xs⟩]).1 ⟨1, (b : Int), (i : Int)⟩ = some ⟨1, b, i, 0, xs⟩ := (stS_shard [] b i xs).1
  have h2 : Ths [⟨1, b, i, 0, xs⟩] [⟨1, (b : Int), (i : Int)⟩] := by
    refine ⟨by simp, fun x => ⟨fun hx => ?_, fun hx => ?_⟩⟩
    · rw [List.mem_singleton.1 hx]
      exact ⟨⟨wf_n60 (n := 1) (by omega), wf_n60 hb, wf_n60 hi⟩, _, hst⟩
    · obtain ⟨_, o, ho⟩ := hx
      have e := (stS_sub _ x o ho).1
      have hm : o ∈ [(⟨1, b, i, 0, xs⟩ : Rc)] := (stS_bd (h := [(⟨1, b, i, 0, xs⟩ : Rc)]) (fun r hr => by rw [List.mem_singleton.1 hr]; exact hg) (show 1 ≤ 1000 by decide)).2.2 x o ho
      rw [List.mem_singleton.1 hm] at e
      rw [e]
      simp [subS]
  rw [srt3_perm (h.perm h2)]
  have e1 : srt3 [(⟨1, (b : Int), (i : Int)⟩ : K3)] = [⟨1, (b : Int), (i : Int)⟩] := by
    have hl := srt3_len [(⟨1, (b : Int), (i : Int)⟩ : K3)]
    have hm := (srt3_mem [(⟨1, (b : Int), (i : Int)⟩ : K3)] ⟨1, (b : Int), (i : Int)⟩).2 (List.mem_singleton.2 rfl)
    match hh : srt3 [(⟨1, (b : Int), (i : Int)⟩ : K3)], hl, hm with
    | [z], _, hm => rw [List.mem_singleton.1 hm]
  rw [e1]
  unfold hldL
  simp [hst]
theorem sh8a (z : Int) : ∃ b : Nat, wrap64 (IntKind.u64.wrap z / 256) = (b : Int) ∧ b ≤ 72057594037927936 := by
  have h1 : IntKind.u64.wrap z = z % 18446744073709551616 := by simp [IntKind.wrap, IntKind.bits, IntKind.signed]
  refine ⟨(IntKind.u64.wrap z / 256).toNat, ?_, ?_⟩
  · rw [h1]; unfold wrap64; omega
  · rw [h1]; omega
theorem Rb.fsta {w : World} {p : Option Addr} {n : Nat} {xs : List Nat} (h : Rb w p n xs) {m : Nat} (hm : m ≤ n) : Rb w p m (xs.take m) := by
  refine ⟨by rw [List.length_take, h.len]; omega, fun x hx => h.byte x (List.mem_of_mem_take hx), fun j hj => ?_⟩
  obtain ⟨b, o, e, c⟩ := h.cell j (by omega)
  refine ⟨b, o, e, ?_⟩
  rw [c, List.getD_eq_getElem?_getD, List.getD_eq_getElem?_getD, List.getElem?_take_of_lt hj]
theorem slice_firstB (p : Option Addr) (n c r : Nat) (hr : r ≤ c) (w : World) :
    (Instr.sliceAt 22 (.slice p n c) none (some (.int .i64 (r : Int))) none).run Tryz.prog w = .ok (.slice p r c) w := by
  have hs := slice_firstO p n c r hr w
  simp [Instr.sliceAt, run_underlying Tryz.underlying22, hs]
theorem min200 (n : Nat) : min (n : Int) 200 = ((min n 200 : Nat) : Int) := by omega
theorem tx_image {w : World} {t n : Nat} {V : Nat → Value} {dur : List Nat} (h : w.rowIs t 22 n V) (ho : ∀ r, r < n → Ow w (t + 1) (V r) ((dur.drop (r * 64)).take 64)) (hb : ∀ x ∈ dur, x < 256) : Tx w (some ⟨t, 0, none⟩) n (secOf dur) := fun r hr => by
  obtain ⟨p, c, e, _, hrb, _⟩ := (ho r hr).rb (fun x hx => hb x (List.mem_of_mem_drop (List.mem_of_mem_take hx)))
  refine ⟨t, 0, rfl, p, c, ?_, hrb⟩
  have h1 := h.cell hr
  rw [Nat.zero_add, h1, e]
  rfl

set_option maxRecDepth 100000 in
theorem sameHeld_hda {p1 p2 : Option Addr} {c1 c2 : Nat} {a b : List Rc} {w : World} (h1 : Hd w p1 a) (h2 : Hd w p2 b) (hl : a.length ≤ 2000 ∧ b.length ≤ 2000) :
    Calls Tryz.prog 11 #[.slice p1 a.length c1, .slice p2 b.length c2] w fun e w' => e = .returned (.bool (decide (a.map keyR = b.map keyR))) ∧ Kp (fun _ => False) w w' := by
  have H : Hid (Calls _ _ _ w _) := eqf_hd p1 p2 c1 c2 a b w h1 h2 hl
  obtain ⟨B, hB⟩ : ∃ B, B = decide (a.map keyR = b.map keyR) := ⟨_, rfl⟩
  obtain ⟨n1, hn1⟩ : ∃ n, n = a.length := ⟨_, rfl⟩
  obtain ⟨n2, hn2⟩ : ∃ n, n = b.length := ⟨_, rfl⟩
  rw [← hB, ← hn1, ← hn2] at H
  rw [← hB, ← hn1, ← hn2]
  clear h1 h2 hl hB hn1 hn2
  go_enter Tryz.func11, Tryz.ntmps11
  go_wp2_with fail
  refine H.out.mono ?_
  rintro e9 w9 ⟨rfl, k9⟩
  clear H
  go_wp2
  go_ret
  exact ⟨rfl, k9⟩

set_option maxRecDepth 100000 in
set_option maxHeartbeats 6400000 in
theorem auditStored_walk (z0 z1 : Int) (pa : Option Addr) (na ca : Nat) (xa : List Nat) (w : World) (h0 : (Lit.int .i64 z0).wf = true) (h1 : (Lit.int .i64 z1).wf = true) (ra : Rb w pa na xa) (lca : na ≤ ca) (sa : Hid (na ≤ 140737488355328)) (ht : Turns w) :
    Calls Tryz.prog 3 #[.int .i64 z0, .int .i64 z1, .slice pa na ca] w fun e w' => e = .returned (.bool true) ∧ Kp (fun _ => False) w w' := by
  have HT : Hid (Turns w) := ht
  have HTn : Hid ((0 : Nat) < w.heap.size) := World.block_lt_of_cell? _ _ (ht 0 (by decide))
  obtain ⟨bl, e0, hbl⟩ := sh8a z0
  obtain ⟨ix, e1, hix⟩ := sh8a z1
  obtain ⟨la, hla⟩ : ∃ la, la = min na 200 := ⟨_, rfl⟩
  have hmin : min (na : Int) 200 = (la : Int) := by rw [hla]; exact min200 na
  have hsl : ∀ z, (Instr.sliceAt 22 (.slice pa na ca) none (some (.int .i64 (la : Int))) none).run Tryz.prog z = .ok (.slice pa la ca) z := fun z => slice_firstB pa na ca la (by omega) z
  have rl := ra.fsta (m := la) (by omega)
  have HCl : Hid (Calls _ _ _ w _) := clone_any pa la ca (xa.take la) w rl (show la ≤ 140737488355328 by omega)
  have HLen : Hid ((xa.take la).length = la ∧ la ≤ 200 ∧ ∀ x ∈ xa.take la, x < 256) := ⟨rl.len, by omega, rl.byte⟩
  have HQ : Hid (bl ≤ 1152921504606846976 ∧ ix ≤ 1152921504606846976) := ⟨by omega, by omega⟩
  clear h0 h1 ra lca sa ht hla rl hbl hix
  go_enter Tryz.func3, Tryz.ntmps3
  go_wp2_with fail
  refine HCl.out.mono ?_
  rintro e9 w2 ⟨v, rfl, k2, o2⟩
  have k3 : Kp (fun _ => False) w2 (w2.alloc (.cells #[.int .u8 1] 5)) := (Kp.refl _ _).alloc _
  have HO3 : Hid (Ow (w2.alloc (.cells #[.int .u8 1] 5)) w.heap.size v (xa.take la)) := ownsRow_keep o2 k3 (fun _ _ e => e)
  have HR3 : Hid (Rb (w2.alloc (.cells #[.int .u8 1] 5)) (some ⟨w2.heap.size, 0, none⟩) 1 [1]) := by
    obtain ⟨p, c, e, _, hr, _⟩ := (own_oneI w2 1 (by decide)).rb (by decide)
    cases e
    exact hr
  have HK3 : Hid (Kp (fun _ => False) w (w2.alloc (.cells #[.int .u8 1] 5))) := k2.trans k3 (fun _ _ e => e)
  have HBl : Hid (∀ b, v.ownBlock = some b → w.heap.size ≤ b) := fun b hb => (ownBlock_lt o2 hb).1
  clear k2 k3 o2 HCl
  go_wp2_with (refine wpList_append_bytes _ rfl _ _ rfl w.heap.size v (xa.take la) rfl HO3.out (some ⟨w2.heap.size, 0, none⟩) 1 1 [1] rfl HR3.out (by have := HLen.out; omega) HK3.out.size ?_; intro vb w4 o4 k4 _)
  obtain ⟨xb, hxb⟩ : ∃ xb, xb = xa.take la ++ [1] := ⟨_, rfl⟩
  rw [← hxb] at o4
  have HXb : Hid (1 ≤ xb.length ∧ xb.length ≤ 201 ∧ (∀ x ∈ xb, x < 256)) := by
    have h1 := HLen.out
    refine ⟨?_, ?_, ?_⟩
    · rw [hxb, List.length_append, h1.1]; show 1 ≤ la + 1; omega
    · rw [hxb, List.length_append, h1.1]; show la + 1 ≤ 201; omega
    · rw [hxb]
      intro x hx
      rcases List.mem_append.1 hx with hx | hx
      · exact h1.2.2 x hx
      · rw [List.mem_singleton.1 hx]; decide
  obtain ⟨pb, cb, rfl, hlb, rb, hpb⟩ := o4.rb HXb.out.2.2
  have HB4 : Hid (Rb w4 pb xb.length xb ∧ (∀ a, pb = some a → a.block < w4.heap.size) ∧ Kp (fun _ => False) w w4) := ⟨rb, fun a ha => (ownBlock_lt o4 (hpb a ha).2).2, HK3.out.trans k4 (fun b hb e => by have := HBl.out b e; omega)⟩
  obtain ⟨M, hM⟩ : ∃ M, M = xb.length := ⟨_, rfl⟩
  rw [← hM]
  rw [← hM] at HB4 HXb
  have HMb : Hid (M = xb.length) := hM
  have HNw : Hid (Calls Tryz.prog 5 #[.int .i64 50] w4 _) := new_ok 50 w4 (by omega) (by omega)
  clear o4 k4 hlb rb hpb HK3 HO3 HR3 HBl hxb hM hmin hsl HLen
  refine HNw.out.mono ?_
  rintro e9 w5 ⟨bp, d, m, rfl, k5, hb5, hd5, hm5, p5⟩
  have HG5 : Hid (Kp (fun _ => False) w4 w5 ∧ w4.heap.size ≤ bp ∧ w4.heap.size ≤ d ∧ w4.heap.size ≤ m ∧ w.heap.size ≤ w4.heap.size) := ⟨k5, hb5, hd5, hm5, HB4.out.2.2.size⟩
  have HO : Hid (Calls _ _ _ w5 _) := sopen_new (s := 48) p5 (by decide) (fun j hj => k5.cellv (HB4.out.2.2.cellv (HT.out j hj) id) id) (by have h1 := HTn.out; have h2 := HG5.out; exact ⟨by omega, by omega⟩)
  clear k5 hb5 hd5 hm5 p5 HNw
  go_wp2_with fail
  refine HO.out.mono ?_
  rintro e9 w6 ⟨sh, mp, g, gf, dur, rfl, k6, hz6, s6⟩
  have HZ : Hid (w4.heap.size ≤ sh ∧ w4.heap.size ≤ mp ∧ w4.heap.size ≤ g ∧ w4.heap.size ≤ gf ∧ w4.heap.size ≤ d ∧ w4.heap.size ≤ m ∧ w.heap.size ≤ w4.heap.size) := by
    have h1 := HG5.out
    have h2 := h1.1.size
    exact ⟨by omega, by omega, by omega, by omega, by omega, by omega, by omega⟩
  have HB6 : Hid (Rb w6 pb M xb ∧ Kp (fun _ => False) w w6) := by
    have h1 := HG5.out
    have h2 := HB4.out.2.1
    exact ⟨(HB4.out.1.keep0 h1.1).keep k6 (fun a ha _ e => by
      have e' : a.block = d ∨ a.block = m := e
      have := h2 a ha
      omega), (HB4.out.2.2.trans h1.1 (fun _ _ e => e)).trans k6 (fun b hb e => by
      have e' : b = d ∨ b = m := e
      omega)⟩
  have hgd : GoodR ⟨1, bl, ix, 0, xb⟩ := ⟨⟨show 1 ≤ 1 by omega, show 1 ≤ 4 by omega⟩, HQ.out.1, HQ.out.2, show 0 ≤ _ by omega, HXb.out.2.2, show xb.length ≤ 1980 by have h1 := HXb.out; have h2 := HMb.out; omega, fun h => by rcases h with h | h <;> exact absurd (show 1 = _ from h) (by decide)⟩
  have hse : secS ⟨1, bl, ix, 0, xb⟩ ≤ 6 := by
    have h1 := (wrS_len hgd).2.2
    have h2 : (wrS ⟨1, bl, ix, 0, xb⟩).length ≤ 28 + xb.length := h1
    have h3 := HXb.out
    have h4 := HMb.out
    unfold secS needW
    omega
  have HGd : Hid (GoodR ⟨1, bl, ix, 0, xb⟩ ∧ Cn ⟨1, bl, ix, 0, xb⟩) := ⟨hgd, ⟨hgd, fun h => absurd (show 1 = 4 from h) (by decide), fun _ => rfl, fun _ => show 1 ≤ xb.length by have h1 := HXb.out; have h2 := HMb.out; omega⟩⟩
  have HSt : Hid (Calls _ _ _ w6 _) := sstore_ok s6 bl ix 0 HQ.out.1 HQ.out.2 (by decide) pb M cb xb HB6.out.1 HMb.out ⟨HXb.out.1, by have := HXb.out; omega⟩ HXb.out.2.2 (fun v hv => hv) (by decide) (by rw [stS_nil]; show 2 * (secS ⟨1, bl, ix, 0, xb⟩ : Int) + 0 + ((0 : Nat) : Int) ≤ ((48 : Nat) : Int); omega) (by show 0 + secS ⟨1, bl, ix, 0, xb⟩ ≤ 48; omega)
  clear k6 hz6 s6 HO hgd hse HG5
  go_wp2_with fail
  refine HSt.out.mono ?_
  rintro e9 w7 (⟨h9, _⟩ | ⟨_, _, rfl, k7, s7⟩ | ⟨_, o, h9, _⟩)
  · rw [fncd_nil] at h9; exact absurd h9 (Nat.lt_irrefl _)
  · have HB7 : Hid (Rb w7 pb M xb ∧ Kp (fun _ => False) w w7) := by
      have h1 := HZ.out
      have h2 := HB4.out.2.1
      exact ⟨HB6.out.1.keep k7 (fun a ha _ e => by
        have := h2 a ha
        rcases e with e | e | e | e | e <;> omega), HB6.out.2.trans k7 (fun b hb e => by
        rcases e with e | e | e | e | e <;> omega)⟩
    have HSy : Hid (Calls _ _ _ w7 _) := ssync_lg s7
    clear k7 s7 HSt HB6
    go_wp2_with fail
    refine HSy.out.mono ?_
    rintro e9 w8 ⟨rfl, k8, dur8, lt8, l8⟩
    have HB8 : Hid (Rb w8 pb M xb ∧ Kp (fun _ => False) w w8) := by
      have h1 := HZ.out
      have h2 := HB4.out.2.1
      exact ⟨HB7.out.1.keep k8 (fun a ha _ e => by
        have e' : a.block = d ∨ a.block = m := e
        have := h2 a ha
        omega), HB7.out.2.trans k8 (fun b hb e => by
        have e' : b = d ∨ b = m := e
        omega)⟩
    have HL8 : Hid (Lg w8 g bp d m gf 48 0 1 1 0 1 lt8 1 ([⟨1, bl, ix, 0, xb⟩].map wrS) dur8 (fun _ => none)) := l8
    have HIm : Hid (Calls _ _ _ w8 _) := image_ok l8.pt
    clear k8 l8 HSy HB7
    go_wp2_with fail
    refine HIm.out.mono ?_
    rintro e9 w9 ⟨t, V, rfl, k9, hz9, r9, o9⟩
    have HSh : Hid (Calls Tryz.prog 9 #[.slice (some ⟨t, 0, none⟩) 50 50] w9 _) := shards_ok (s := 48) (hh := [⟨1, bl, ix, 0, xb⟩]) (HL8.out.keep0 k9) (fun r hr => by rw [List.mem_singleton.1 hr]; exact HGd.out.2) (show 1 ≤ 1000 by decide) (by decide) (by decide) (tx_image r9 o9 HL8.out.pt.byte) (fun j hj => k9.cellv (HB8.out.2.cellv (HT.out j hj) id) id)
    have HB9 : Hid (Rb w9 pb M xb ∧ Kp (fun _ => False) w w9) := ⟨HB8.out.1.keep0 k9, HB8.out.2.trans k9 (fun _ _ e => e)⟩
    clear k9 hz9 r9 o9 HIm HL8 HB8
    go_wp2_with fail
    refine HSh.out.mono ?_
    rintro e9 wa ⟨pr, cr, rs, ss, rfl, ka, ha, ta, ra, la2⟩
    have hrs : rs = [⟨1, bl, ix, 0, xb⟩] := ra.trans (hld_one HGd.out.1 HQ.out.1 HQ.out.2 ta)
    obtain ⟨wb, hwb⟩ : ∃ z, z = wa.alloc (.cells #[.int .i64 (bl : Int), .int .i64 (ix : Int), .slice pb M cb] 41) := ⟨_, rfl⟩
    have kb : Kp (fun _ => False) wa wb := by rw [hwb]; exact (Kp.refl _ _).alloc _
    have lb : Lv wb wa.heap.size [.int .i64 (bl : Int), .int .i64 (ix : Int), .slice pb M cb] := by rw [hwb]; exact Lv.new wa _ _
    have hdb : Hd wb (some ⟨wa.heap.size, 0, none⟩) [⟨1, bl, ix, 0, xb⟩] := fun j hj => by
      have hj0 : j = 0 := by have h9 : j < 1 := hj; omega
      subst hj0
      exact ⟨wa.heap.size, 0, pb, cb, rfl, lb.cell (j := 0) rfl, lb.cell (j := 1) rfl, by show _ = some (Value.slice pb xb.length cb); rw [← HMb.out]; exact lb.cell (j := 2) rfl, by show Rb wb pb xb.length xb; rw [← HMb.out]; exact ((HB9.out.1.keep0 ka).keep0 kb)⟩
    have HSm : Hid (Calls Tryz.prog 11 #[.slice pr 1 cr, .slice (some ⟨wa.heap.size, 0, none⟩) 1 1] wb fun e w' => e = .returned (.bool true) ∧ Kp (fun _ => False) wb w') := by
      have h9 := sameHeld_hda (c1 := cr) (c2 := 1) (ha.keep0 kb) hdb ⟨Nat.le_trans la2 (by decide), show 1 ≤ 2000 by decide⟩
      rw [hrs, decide_eq_true rfl] at h9
      exact h9
    have HKb : Hid (Kp (fun _ => False) w wb) := (HB9.out.2.trans ka (fun _ _ e => e)).trans kb (fun _ _ e => e)
    have hr1 : rs.length = 1 := by rw [hrs]; rfl
    rw [hr1]
    clear ka ha ta ra la2 hrs kb lb hdb HSh HB9 hr1
    go_wp2_with fail
    rw [← hwb]
    clear hwb
    refine HSm.out.mono ?_
    rintro e9 wc ⟨rfl, kc⟩
    have HKc : Hid (Kp (fun _ => False) w wc) := HKb.out.trans kc (fun _ _ e => e)
    clear kc HSm HKb
    go_wp2
    go_ret
    exact ⟨rfl, HKc.out⟩
  · rw [stS_nil] at h9; cases h9
end Go.Proofs.YtblaabjjcanifaaGreatDoor
