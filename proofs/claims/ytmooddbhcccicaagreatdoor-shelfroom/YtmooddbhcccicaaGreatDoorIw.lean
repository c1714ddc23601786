/- ShelfDrops. -/
import Derived.Test.YtmooddbhcccicaaGreatDoorIr
import Derived.Test.YtmooddbhcccicaaGreatDoorIv
namespace Go.Proofs.YtmooddbhcccicaaGreatDoor
set_option linter.unusedVariables false
set_option linter.unusedSimpArgs false
open Go.RowKit Go.Deep Go.Maps

theorem sh8 (z : Int) : ∃ b : Nat, wrap64 (IntKind.u64.wrap z / 256) = (b : Int) ∧ b ≤ 72057594037927936 := by
  have h1 : IntKind.u64.wrap z = z % 18446744073709551616 := by simp [IntKind.wrap, IntKind.bits, IntKind.signed]
  refine ⟨(IntKind.u64.wrap z / 256).toNat, ?_, ?_⟩
  · rw [h1]; unfold wrap64; omega
  · rw [h1]; omega
theorem md100 (z : Int) : ∃ f : Nat, wrap64 (1 + wrap64 ((IntKind.u64.wrap z).tmod 100)) = ((f + 1 : Nat) : Int) ∧ f ≤ 99 := by
  have h1 : IntKind.u64.wrap z = z % 18446744073709551616 := by simp [IntKind.wrap, IntKind.bits, IntKind.signed]
  have h0 : 0 ≤ IntKind.u64.wrap z := by rw [h1]; omega
  have h2 : (IntKind.u64.wrap z).tmod 100 = IntKind.u64.wrap z % 100 := Int.tmod_eq_emod_of_nonneg h0
  refine ⟨((IntKind.u64.wrap z).tmod 100).toNat, ?_, ?_⟩
  · rw [h2]; unfold wrap64; omega
  · rw [h2]; omega
theorem min100 (n : Nat) : min (n : Int) 100 = ((min n 100 : Nat) : Int) := by omega
theorem Rb.fst {w : World} {p : Option Addr} {n : Nat} {xs : List Nat} (h : Rb w p n xs) {m : Nat} (hm : m ≤ n) : Rb w p m (xs.take m) := by
  refine ⟨by rw [List.length_take, h.len]; omega, fun x hx => h.byte x (List.mem_of_mem_take hx), fun j hj => ?_⟩
  obtain ⟨b, o, e, c⟩ := h.cell j (by omega)
  refine ⟨b, o, e, ?_⟩
  rw [c, List.getD_eq_getElem?_getD, List.getD_eq_getElem?_getD, List.getElem?_take_of_lt hj]
theorem ne_last (xs ys : List Nat) : ¬ xs ++ [1] = ys ++ [2] := fun e => by
  have := congrArg List.getLast? e
  simp at this

set_option maxRecDepth 100000 in
set_option maxHeartbeats 64000000 in
theorem shelfDrops_walk (z0 z1 z2 : Int) (pa : Option Addr) (na ca : Nat) (xa : List Nat) (pb : Option Addr) (nb cb : Nat) (xb : List Nat) (w : World) (h0 : (Lit.int .i64 z0).wf = true) (h1 : (Lit.int .i64 z1).wf = true) (h2 : (Lit.int .i64 z2).wf = true)
    (ra : Rb w pa na xa) (lca : na ≤ ca) (sa : Hid (na ≤ 140737488355328)) (rb : Rb w pb nb xb) (lcb : nb ≤ cb) (sb : Hid (nb ≤ 140737488355328)) (ht : Turns w) :
    Calls Tryz.prog 7 #[.int .i64 z0, .int .i64 z1, .int .i64 z2, .slice pa na ca, .slice pb nb cb] w fun e w' => e = .returned (.bool true) ∧ Kp (fun _ => False) w w' := by
  have HFr : Hid (Calls _ _ _ w _) := fresh8_ok w ht
  have HA : Hid (Rb w pa na xa ∧ na ≤ ca ∧ na ≤ 140737488355328) := ⟨ra, lca, sa.out⟩
  have HB : Hid (Rb w pb nb xb ∧ nb ≤ cb ∧ nb ≤ 140737488355328) := ⟨rb, lcb, sb.out⟩
  clear ra lca sa rb lcb sb ht
  go_enter Tryz.func7, Tryz.ntmps7
  go_wp2_with fail
  refine HFr.out.mono ?_
  rintro e9 w1 ⟨sh, mp, g, gf, bp, d, m, dur, rfl, k1, hz1, s1⟩
  have HK1 : Hid (Kp (fun _ => False) w w1) := k1
  have HZ1 : Hid (w.heap.size ≤ sh ∧ w.heap.size ≤ mp ∧ w.heap.size ≤ g ∧ w.heap.size ≤ gf ∧ w.heap.size ≤ bp ∧ w.heap.size ≤ d ∧ w.heap.size ≤ m) := hz1
  have HS1 : Hid (Shf w1 (fun x => w1.heap.size ≤ x) sh mp g bp d m gf 298 1 1 0 1 0 dur []) := s1
  clear k1 hz1 s1 HFr
  obtain ⟨bl, e0, hbl⟩ := sh8 z0
  obtain ⟨ix, e1, hix⟩ := sh8 z1
  obtain ⟨f, e2, hf⟩ := md100 z2
  obtain ⟨F, hF⟩ : ∃ F, F = f + 1 := ⟨_, rfl⟩
  rw [← hF] at e2
  go_upto_region 5 with fail
  rw [e0, e1, e2]
  have HQ : Hid (bl ≤ 1152921504606846976 ∧ ix ≤ 1152921504606846976 ∧ F ≤ 1152921504606846976 ∧ f ≤ 1152921504606846976) := ⟨by omega, by omega, by omega, by omega⟩
  have HFf : Hid (F = f + 1) := hF
  have hwf : wrap64 ((F : Int) - 1) = (f : Int) := by unfold wrap64; omega
  clear h0 h1 h2 hbl hix hf e0 e1 e2 hF
  obtain ⟨a1, a2, a3⟩ := HA.out
  obtain ⟨b1, b2, b3⟩ := HB.out
  have ra := (a1.keep0 HK1.out).fst (m := min na 100) (by omega)
  have rb := (b1.keep0 HK1.out).fst (m := min nb 100) (by omega)
  refine dr_region (by kernel_rfl) na ca nb cb (min na 100) (min nb 100) pa pb (xa.take (min na 100)) (xb.take (min nb 100)) rfl rfl rfl (min100 na) (min100 nb) ra rb ⟨by omega, by omega⟩ ⟨by omega, by omega⟩ ?_
  have HL : Hid (1 ≤ (xa.take (min na 100) ++ [1]).length ∧ (xa.take (min na 100) ++ [1]).length ≤ 600 ∧ 1 ≤ (xb.take (min nb 100) ++ [2]).length ∧ (xb.take (min nb 100) ++ [2]).length ≤ 600) := by
    have l1 := ra.len
    have l2 := rb.len
    show 1 ≤ _ ∧ _ ≤ 600 ∧ 1 ≤ _ ∧ _ ≤ 600
    simp only [List.length_append, List.length_cons, List.length_nil]
    omega
  have HBy : Hid ((∀ x ∈ xa.take (min na 100) ++ [1], x < 256) ∧ ∀ x ∈ xb.take (min nb 100) ++ [2], x < 256) := by
    refine ⟨fun x hx => ?_, fun x hx => ?_⟩
    · rcases List.mem_append.1 hx with hx | hx
      · exact ra.byte x hx
      · rw [List.mem_singleton.1 hx]; decide
    · rcases List.mem_append.1 hx with hx | hx
      · exact rb.byte x hx
      · rw [List.mem_singleton.1 hx]; decide
  have HNe : Hid (¬ xa.take (min na 100) ++ [1] = xb.take (min nb 100) ++ [2]) := ne_last _ _
  clear ra rb a1 a2 a3 b1 b2 b3 HA HB
  obtain ⟨xa1, hxa⟩ : ∃ y, y = xa.take (min na 100) ++ [1] := ⟨_, rfl⟩
  obtain ⟨xb1, hxb⟩ : ∃ y, y = xb.take (min nb 100) ++ [2] := ⟨_, rfl⟩
  obtain ⟨N, hN⟩ : ∃ N, N = w1.heap.size := ⟨_, rfl⟩
  rw [← hxa, ← hxb] at HNe HL HBy
  rw [← hxa, ← hxb, ← hN]
  rw [← hN] at HS1
  have HN : Hid (N = w1.heap.size) := hN
  clear hxa hxb hN
  intro q38 q39 q40 q41 q42 q43 q44 q45 q46 q47 q48 q49 q50 q51 q52 q53 q3 q4 w2 k2 oa ob
  simp only [Act.put, List.setIfInBounds_toArray, List.set_cons_succ, List.set_cons_zero]
  have HX0 : Hid (D8 w w2 N sh mp g bp d m gf dur [] ∧ Ow w2 N q3 xa1 ∧ Ow w2 N q4 xb1) := by
    have z := HZ1.out
    exact ⟨⟨HS1.out.keep0 k2, HK1.out.trans k2 (fun _ _ e => e), by rw [HN.out]; exact k2.size, ⟨z.1, z.2.1, z.2.2.1, z.2.2.2.1, z.2.2.2.2.2.2⟩, fun r hr => absurd hr List.not_mem_nil⟩, oa, ob⟩
  clear k2 oa ob HS1 HK1 HZ1 HN
  obtain ⟨A, hA⟩ : ∃ A, A = (⟨1, bl, ix, 0, xa1⟩ : Rc) := ⟨_, rfl⟩
  have HSt : Hid ((stS ([] : List Rc)).1 ⟨1, (bl : Int), (ix : Int)⟩ = none ∧ fncd [] bl ix = 0 ∧
      (stS [⟨1, bl, ix, 0, xa1⟩]).1 ⟨1, (bl : Int), (ix : Int)⟩ = some ⟨1, bl, ix, 0, xa1⟩ ∧ fncd [⟨1, bl, ix, 0, xa1⟩] bl ix = 0 ∧
      (stS [⟨1, bl, ix, 0, xa1⟩, ⟨3, bl, ix, F, []⟩]).1 ⟨1, (bl : Int), (ix : Int)⟩ = some ⟨1, bl, ix, 0, xa1⟩ ∧
      (stS [⟨1, bl, ix, 0, xa1⟩, ⟨3, bl, ix, F, []⟩, ⟨2, bl, ix, 0, []⟩]).1 ⟨1, (bl : Int), (ix : Int)⟩ = none ∧ fncd [⟨1, bl, ix, 0, xa1⟩, ⟨3, bl, ix, F, []⟩, ⟨2, bl, ix, 0, []⟩] bl ix = F ∧
      (stS [⟨1, bl, ix, 0, xa1⟩, ⟨3, bl, ix, F, []⟩, ⟨2, bl, ix, 0, []⟩, ⟨1, bl, ix, 0, xb1⟩]).1 ⟨1, (bl : Int), (ix : Int)⟩ = some ⟨1, bl, ix, 0, xb1⟩ ∧ fncd [⟨1, bl, ix, 0, xa1⟩, ⟨3, bl, ix, F, []⟩, ⟨2, bl, ix, 0, []⟩, ⟨1, bl, ix, 0, xb1⟩] bl ix = F) := by
    have s1 := stS_shard [] bl ix xa1
    have s2 := stS_fence [⟨1, bl, ix, 0, xa1⟩] bl ix F (by have := HFf.out; omega)
    have s3 := stS_drop [⟨1, bl, ix, 0, xa1⟩, ⟨3, bl, ix, F, []⟩] bl ix
    have s4 := stS_shard [⟨1, bl, ix, 0, xa1⟩, ⟨3, bl, ix, F, []⟩, ⟨2, bl, ix, 0, []⟩] bl ix xb1
    refine ⟨rfl, fncd_nil bl ix, s1.1, (s1.2 bl ix).trans (fncd_nil bl ix), (s2.2 bl ix).trans s1.1, s3.1, (s3.2 bl ix).trans s2.1, s4.1, (s4.2 bl ix).trans ((s3.2 bl ix).trans s2.1)⟩
  clear hA
  have HC : Hid (Calls _ _ _ w2 _) := HX0.out.1.drop_none bl ix HQ.out.1 HQ.out.2.1 (by decide) HSt.out.1
  go_wp2_with fail
  refine HC.out.mono ?_
  rintro e9 w3 ⟨rfl, x, o⟩
  have HX1 : Hid (D8 w w3 N sh mp g bp d m gf dur [] ∧ Ow w3 N q3 xa1 ∧ Ow w3 N q4 xb1) := ⟨x, o.ow HX0.out.2.1, o.ow HX0.out.2.2⟩
  clear x o HX0 HC
  have HC : Hid (Calls Tryz.prog 14 #[.pointer (some ⟨sh, 0, none⟩), .int .i64 (bl : Int), .int .i64 (ix : Int), .int .i64 0, q3] w3 _) := HX1.out.1.store_new bl ix 0 HQ.out.1 HQ.out.2.1 (by decide) (show 0 ≤ 5 by decide) HX1.out.2.1 ⟨HL.out.1, HL.out.2.1⟩ HBy.out.1 (Nat.le_of_eq HSt.out.2.1) HSt.out.1
  go_wp2_with fail
  refine HC.out.mono ?_
  rintro e9 w4 ⟨rfl, x, o⟩
  have HX2 : Hid (D8 w w4 N sh mp g bp d m gf dur [⟨1, bl, ix, 0, xa1⟩] ∧ Ow w4 N q3 xa1 ∧ Ow w4 N q4 xb1) := ⟨x, o.ow HX1.out.2.1, o.ow HX1.out.2.2⟩
  clear x o HX1 HC
  have HC : Hid (Calls Tryz.prog 14 #[.pointer (some ⟨sh, 0, none⟩), .int .i64 (bl : Int), .int .i64 (ix : Int), .int .i64 0, q4] w4 fun e9 u' => e9 = .returned (.int .i64 82) ∧ D8 w u' N sh mp g bp d m gf dur [⟨1, bl, ix, 0, xa1⟩] ∧ Oks N w4 u') := by
    have h9 := HX2.out.1.store_there bl ix 0 HQ.out.1 HQ.out.2.1 (by decide) (show 1 ≤ 5 by decide) HX2.out.2.2 HL.out.2.2 HBy.out.2 (Nat.le_of_eq HSt.out.2.2.2.1) HSt.out.2.2.1
    rw [if_neg HNe.out] at h9
    exact h9
  go_wp2_with fail
  refine HC.out.mono ?_
  rintro e9 w5 ⟨rfl, x, o⟩
  have HX3 : Hid (D8 w w5 N sh mp g bp d m gf dur [⟨1, bl, ix, 0, xa1⟩] ∧ Ow w5 N q3 xa1 ∧ Ow w5 N q4 xb1) := ⟨x, o.ow HX2.out.2.1, o.ow HX2.out.2.2⟩
  clear x o HX2 HC
  have HC : Hid (Calls _ _ _ w5 _) := HX3.out.1.fence bl ix F HQ.out.1 HQ.out.2.1 HQ.out.2.2.1 (show 1 ≤ 5 by decide) (by rw [HSt.out.2.2.2.1]; have := HFf.out; omega)
  go_wp2_with fail
  refine HC.out.mono ?_
  rintro e9 w6 ⟨rfl, x, o⟩
  have HX4 : Hid (D8 w w6 N sh mp g bp d m gf dur [⟨1, bl, ix, 0, xa1⟩, ⟨3, bl, ix, F, []⟩] ∧ Ow w6 N q3 xa1 ∧ Ow w6 N q4 xb1) := ⟨x, o.ow HX3.out.2.1, o.ow HX3.out.2.2⟩
  clear x o HX3 HC
  have HC : Hid (Calls _ _ _ w6 _) := HX4.out.1.drop_some bl ix HQ.out.1 HQ.out.2.1 (show 2 ≤ 5 by decide) HSt.out.2.2.2.2.1
  go_wp2_with fail
  refine HC.out.mono ?_
  rintro e9 w7 ⟨rfl, x, o⟩
  have HX5 : Hid (D8 w w7 N sh mp g bp d m gf dur [⟨1, bl, ix, 0, xa1⟩, ⟨3, bl, ix, F, []⟩, ⟨2, bl, ix, 0, []⟩] ∧ Ow w7 N q3 xa1 ∧ Ow w7 N q4 xb1) := ⟨x, o.ow HX4.out.2.1, o.ow HX4.out.2.2⟩
  clear x o HX4 HC
  have HC : Hid (Calls _ _ _ w7 _) := HX5.out.1.fetch_none bl ix F HQ.out.1 HQ.out.2.1 HQ.out.2.2.1 (Nat.le_of_eq HSt.out.2.2.2.2.2.2.1) HSt.out.2.2.2.2.2.1
  go_wp2_with fail
  refine HC.out.mono ?_
  rintro e9 w8 ⟨rfl, x, o⟩
  have HX6 : Hid (D8 w w8 N sh mp g bp d m gf dur [⟨1, bl, ix, 0, xa1⟩, ⟨3, bl, ix, F, []⟩, ⟨2, bl, ix, 0, []⟩] ∧ Ow w8 N q3 xa1 ∧ Ow w8 N q4 xb1) := ⟨x, o.ow HX5.out.2.1, o.ow HX5.out.2.2⟩
  clear x o HX5 HC
  have HC : Hid (Calls _ _ _ w8 _) := HX6.out.1.store_low bl ix f HQ.out.1 HQ.out.2.1 HQ.out.2.2.2 (show 3 ≤ 5 by decide) HX6.out.2.2 HL.out.2.2 HBy.out.2 (by rw [HSt.out.2.2.2.2.2.2.1]; have := HFf.out; omega)
  go_wp2_with fail
  refine HC.out.mono ?_
  rintro e9 w9 ⟨rfl, x, o⟩
  have HX7 : Hid (D8 w w9 N sh mp g bp d m gf dur [⟨1, bl, ix, 0, xa1⟩, ⟨3, bl, ix, F, []⟩, ⟨2, bl, ix, 0, []⟩] ∧ Ow w9 N q3 xa1 ∧ Ow w9 N q4 xb1) := ⟨x, o.ow HX6.out.2.1, o.ow HX6.out.2.2⟩
  clear x o HX6 HC
  have HC : Hid (Calls _ _ _ w9 _) := HX7.out.1.store_new bl ix F HQ.out.1 HQ.out.2.1 HQ.out.2.2.1 (show 3 ≤ 5 by decide) HX7.out.2.2 HL.out.2.2 HBy.out.2 (Nat.le_of_eq HSt.out.2.2.2.2.2.2.1) HSt.out.2.2.2.2.2.1
  go_wp2_with fail
  refine HC.out.mono ?_
  rintro e9 wa ⟨rfl, x, o⟩
  have HX8 : Hid (D8 w wa N sh mp g bp d m gf dur [⟨1, bl, ix, 0, xa1⟩, ⟨3, bl, ix, F, []⟩, ⟨2, bl, ix, 0, []⟩, ⟨1, bl, ix, 0, xb1⟩] ∧ Ow wa N q3 xa1 ∧ Ow wa N q4 xb1) := ⟨x, o.ow HX7.out.2.1, o.ow HX7.out.2.2⟩
  clear x o HX7 HC
  have HC : Hid (Calls _ _ _ wa _) := HX8.out.1.fetch_some bl ix F HQ.out.1 HQ.out.2.1 HQ.out.2.2.1 (Nat.le_of_eq HSt.out.2.2.2.2.2.2.2.2) HSt.out.2.2.2.2.2.2.2.1
  go_wp2_with fail
  refine HC.out.mono ?_
  rintro e9 wb ⟨vx, rfl, ox, x, o⟩
  have HX9 : Hid (D8 w wb N sh mp g bp d m gf dur [⟨1, bl, ix, 0, xa1⟩, ⟨3, bl, ix, F, []⟩, ⟨2, bl, ix, 0, []⟩, ⟨1, bl, ix, 0, xb1⟩]) := x
  have HC2 : Hid (Calls Tryz.prog 20 #[vx, q4] wb fun e u' => e = .returned (.bool true) ∧ u' = wb) := by
    have h9 := eq_own ox (o.ow HX8.out.2.2) HBy.out.2 HBy.out.2
    rw [decide_eq_true rfl] at h9
    exact h9
  have HC3 : Hid (Calls Tryz.prog 19 #[.pointer (some ⟨sh, 0, none⟩), .int .i64 (bl : Int), .int .i64 (ix : Int)] wb fun e u' => e = .returned (.int .i64 (F : Int)) ∧ u' = wb) := by
    have h9 := x.fenced bl ix HQ.out.1 HQ.out.2.1
    rw [HSt.out.2.2.2.2.2.2.2.2] at h9
    exact h9
  clear x o HX8 HC ox
  go_wp2_with fail
  refine HC2.out.mono ?_
  rintro e9 wc ⟨rfl, hw9⟩
  have hw8 := hw9.symm
  subst hw8
  clear hw9 HC2
  go_wp2_with fail
  refine HC3.out.mono ?_
  rintro e9 wc ⟨rfl, hw9⟩
  have hw8 := hw9.symm
  subst hw8
  clear hw9 HC3
  go_wp2
  go_ret
  exact ⟨rfl, HX9.out.k⟩
end Go.Proofs.YtmooddbhcccicaaGreatDoor
