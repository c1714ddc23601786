/- Texts of this proof, joined: Jq, Jri, Jrj. -/
import Derived.Test.YtmooddbhcccicaaGreatDoorMgBK
import Derived.Test.YtmooddbhcccicaaGreatDoorMgBI
import Derived.Test.YtmooddbhcccicaaGreatDoorMgBE
import Derived.Test.YtmooddbhcccicaaGreatDoorMgBF
import Derived.Test.YtmooddbhcccicaaGreatDoorMgBH
import Derived.StillTailTactics
/- ShelfFences. -/
namespace Go.Proofs.YtmooddbhcccicaaGreatDoor
set_option linter.unusedVariables false
set_option linter.unusedSimpArgs false
open Go.RowKit Go.Deep Go.Maps

theorem md1000 (z : Int) : ∃ f : Nat, wrap64 ((IntKind.u64.wrap z).tmod 1000) = (f : Int) ∧ f ≤ 999 := by
  have h1 : IntKind.u64.wrap z = z % 18446744073709551616 := by simp [IntKind.wrap, IntKind.bits, IntKind.signed]
  have h0 : 0 ≤ IntKind.u64.wrap z := by rw [h1]; omega
  have h2 : (IntKind.u64.wrap z).tmod 1000 = IntKind.u64.wrap z % 1000 := Int.tmod_eq_emod_of_nonneg h0
  refine ⟨((IntKind.u64.wrap z).tmod 1000).toNat, ?_, ?_⟩
  · rw [h2]; unfold wrap64; omega
  · rw [h2]; omega
theorem min500 (n : Nat) : min (n : Int) 500 = ((min n 500 : Nat) : Int) := by omega
theorem ne_12 (xs : List Nat) : ¬ xs ++ [1] = [1, 2] := fun e => by
  have := congrArg List.getLast? e
  simp at this
theorem slice_firstA (p : Option Addr) (n c r : Nat) (hr : r ≤ c) (w : World) :
    (Instr.sliceAt 34 (.slice p n c) none (some (.int .i64 (r : Int))) none).run Tryz.prog w = .ok (.slice p r c) w := by
  have hs := slice_firstO p n c r hr w
  simp [Instr.sliceAt, run_underlying Tryz.underlying34, hs]
theorem Oks.hr {N : Nat} {u u' : World} (o : Oks N u u') {v : Value} {ps : List (Rc × Value)} (h : Hr u N v ps) : Hr u' N v ps := ⟨o.row _ _ _ _ _ h.1, fun z hz => ⟨o.ow (h.2 z hz).1, (h.2 z hz).2⟩⟩
theorem D8.held {w u : World} {N sh mp g bp d m gf : Nat} {dur : List Nat} {h : List Rc} (x : D8 w u N sh mp g bp d m gf dur h) :
    Calls Tryz.prog 16 #[.pointer (some ⟨sh, 0, none⟩)] u fun e u' => ∃ v ps ss, e = .returned v ∧ Hr u' N v ps ∧ Ths h ss ∧ ps.map Prod.fst = hldL h (srt3 ss) ∧ ps.length ≤ 1000 ∧ D8 w u' N sh mp g bp d m gf dur h ∧ Oks N u u' := by
  refine (held_ok x.s.sk).mono ?_
  rintro e u' ⟨v, ps, ss, rfl, k, hh, ht, he⟩
  refine ⟨v, ps, ss, rfl, hh.base x.n, ht, he, ?_, x.keep0 k⟩
  have h1 := congrArg List.length he
  rw [List.length_map] at h1
  have h2 : (hldL h (srt3 ss)).length ≤ (srt3 ss).length := List.length_filterMap_le _ _
  have h3 := ht.len x.s.sk
  rw [srt3_len] at h2
  omega

set_option maxRecDepth 100000 in
set_option maxHeartbeats 6400000 in
theorem shelfFences_walk (z0 z1 z2 z3 : Int) (pa : Option Addr) (na ca : Nat) (xa : List Nat) (w : World) (h0 : (Lit.int .i64 z0).wf = true) (h1 : (Lit.int .i64 z1).wf = true) (h2 : (Lit.int .i64 z2).wf = true) (h3 : (Lit.int .i64 z3).wf = true)
    (ra : Rb w pa na xa) (lca : na ≤ ca) (sa : Hid (na ≤ 140737488355328)) (ht : Turns w) :
    Calls Tryz.prog 4 #[.int .i64 z0, .int .i64 z1, .int .i64 z2, .int .i64 z3, .slice pa na ca] w fun e w' => e = .returned (.bool true) ∧ Kp (fun _ => False) w w' := by
  have HFr : Hid (Calls _ _ _ w _) := fresh8_ok w ht
  have HA : Hid (Rb w pa na xa ∧ na ≤ ca ∧ na ≤ 140737488355328) := ⟨ra, lca, sa.out⟩
  clear ra lca sa ht
  obtain ⟨bl, e0, hbl⟩ := sh8 z0
  obtain ⟨ix, e1, hix⟩ := sh8 z1
  obtain ⟨ep, e2, hep⟩ := md1000 z2
  obtain ⟨f, e3, hf⟩ := md1000 z3
  have HQ : Hid (bl ≤ 1152921504606846976 ∧ ix ≤ 1152921504606846976 ∧ ep ≤ 1152921504606846976 ∧ f ≤ 1152921504606846976) := ⟨by omega, by omega, by omega, by omega⟩
  clear h0 h1 h2 h3 hbl hix hep hf
  obtain ⟨la, hla⟩ : ∃ la, la = min na 500 := ⟨_, rfl⟩
  have hmin : min (na : Int) 500 = (la : Int) := by rw [hla]; exact min500 na
  have hsl : ∀ z, (Instr.sliceAt 34 (.slice pa na ca) none (some (.int .i64 (la : Int))) none).run Tryz.prog z = .ok (.slice pa la ca) z := fun z => slice_firstA pa na ca la (by have := HA.out.2.1; omega) z
  have HLa : Hid (la ≤ na ∧ la ≤ 500) := ⟨by omega, by omega⟩
  clear hla
  go_enter Tryz.func4, Tryz.ntmps4
  go_wp2_with fail
  refine HFr.out.mono ?_
  rintro e9 w1 ⟨sh, mp, g, gf, bp, d, m, dur, rfl, k1, hz1, s1⟩
  obtain ⟨N, hN⟩ : ∃ N, N = w1.heap.size := ⟨_, rfl⟩
  rw [← hN] at s1
  have HX0 : Hid (D8 w w1 N sh mp g bp d m gf dur []) := ⟨s1, k1, Nat.le_of_eq hN, ⟨hz1.1, hz1.2.1, hz1.2.2.1, hz1.2.2.2.1, hz1.2.2.2.2.2.2⟩, fun r hr => absurd hr List.not_mem_nil⟩
  have HCl : Hid (Calls _ _ _ w1 _) := clone_any pa la ca (xa.take la) w1 ((HA.out.1.keep0 k1).fst HLa.out.1) (show la ≤ 140737488355328 by have := HLa.out; omega)
  have HN1 : Hid (N = w1.heap.size) := hN
  clear k1 hz1 s1 HFr hN
  go_wp2_with fail
  refine HCl.out.mono ?_
  rintro e9 w2 ⟨v, rfl, k2, o2⟩
  have HO2 : Hid (Ow w2 w1.heap.size v (xa.take la)) := o2
  have HLen : Hid ((xa.take la).length = la ∧ ∀ x ∈ xa.take la, x < 256) := by
    have h1 := HA.out.1.fst HLa.out.1
    exact ⟨h1.len, h1.byte⟩
  have k3 : Kp (fun _ => False) w2 (w2.alloc (.cells #[.int .u8 1] 5)) := (Kp.refl _ _).alloc _
  have HO3 : Hid (Ow (w2.alloc (.cells #[.int .u8 1] 5)) w1.heap.size v (xa.take la)) := ownsRow_keep o2 k3 (fun _ _ e => e)
  have HR3 : Hid (Rb (w2.alloc (.cells #[.int .u8 1] 5)) (some ⟨w2.heap.size, 0, none⟩) 1 [1]) := by
    obtain ⟨p, c, e, _, hr, _⟩ := (own_oneI w2 1 (by decide)).rb (by decide)
    cases e
    exact hr
  have HK3 : Hid (Kp (fun _ => False) w1 (w2.alloc (.cells #[.int .u8 1] 5))) := k2.trans k3 (fun _ _ e => e)
  have HBl : Hid (∀ b, v.ownBlock = some b → w1.heap.size ≤ b) := fun b hb => (ownBlock_lt o2 hb).1
  clear k2 k3 o2 HCl HO2
  go_wp2_with (refine wpList_append_bytes _ rfl _ _ rfl w1.heap.size v (xa.take la) rfl HO3.out (some ⟨w2.heap.size, 0, none⟩) 1 1 [1] rfl HR3.out (by have := HLen.out.1; have := HLa.out; omega) HK3.out.size ?_; intro vb w4 o4 k4 _)
  obtain ⟨xb, hxb⟩ : ∃ xb, xb = xa.take la ++ [1] := ⟨_, rfl⟩
  rw [← hxb] at o4
  have HXb : Hid (1 ≤ xb.length ∧ xb.length ≤ 600 ∧ (∀ x ∈ xb, x < 256) ∧ ¬ xb = [1, 2]) := by
    have h1 := HLen.out
    have h2 := HLa.out
    refine ⟨?_, ?_, ?_, by rw [hxb]; exact ne_12 _⟩
    · rw [hxb, List.length_append, h1.1]; show 1 ≤ la + 1; omega
    · rw [hxb, List.length_append, h1.1]; show la + 1 ≤ 600; omega
    · rw [hxb]
      intro x hx
      rcases List.mem_append.1 hx with hx | hx
      · exact h1.2 x hx
      · rw [List.mem_singleton.1 hx]; decide
  have HX4 : Hid (D8 w w4 N sh mp g bp d m gf dur [] ∧ Ow w4 N vb xb) := by
    refine ⟨(HX0.out.keep0 (HK3.out.trans k4 (fun b hb e => by have := HBl.out b e; omega))).1, by rw [HN1.out]; exact o4⟩
  clear o4 k4 HX0 HK3 HO3 HR3 HBl HN1 hxb hmin hsl HLen HLa HA e0 e1 e2 e3
  have hs1 := stS_shard [] bl ix xb
  have HSt : Hid ((stS [⟨1, bl, ix, 0, xb⟩]).1 ⟨1, (bl : Int), (ix : Int)⟩ = some ⟨1, bl, ix, 0, xb⟩ ∧ fncd [⟨1, bl, ix, 0, xb⟩] bl ix = 0) := ⟨hs1.1, (hs1.2 bl ix).trans (fncd_nil bl ix)⟩
  clear hs1
  have HC : Hid (Calls Tryz.prog 14 #[.pointer (some ⟨sh, 0, none⟩), .int .i64 (bl : Int), .int .i64 (ix : Int), .int .i64 0, vb] w4 _) := HX4.out.1.store_new bl ix 0 HQ.out.1 HQ.out.2.1 (by decide) (show 0 ≤ 5 by decide) HX4.out.2 ⟨HXb.out.1, HXb.out.2.1⟩ HXb.out.2.2.1 (Nat.le_of_eq (fncd_nil bl ix)) rfl
  refine HC.out.mono ?_
  rintro e9 w5 ⟨rfl, x, o⟩
  have HX5 : Hid (D8 w w5 N sh mp g bp d m gf dur [⟨1, bl, ix, 0, xb⟩] ∧ Ow w5 N vb xb) := ⟨x, o.ow HX4.out.2⟩
  clear x o HX4 HC
  have HC : Hid (Calls _ _ _ w5 _) := HX5.out.1.fence_any bl ix f HQ.out.1 HQ.out.2.1 HQ.out.2.2.2 (show 1 ≤ 5 by decide) (by rw [HSt.out.2]; exact Nat.zero_le _)
  go_wp2_with fail
  refine HC.out.mono ?_
  rintro e9 w6 ⟨rfl, o, h, x, hl, hf, hst⟩
  have HX6 : Hid (D8 w w6 N sh mp g bp d m gf dur h ∧ Ow w6 N vb xb) := ⟨x, o.ow HX5.out.2⟩
  have HH : Hid (h.length ≤ 5 ∧ fncd h bl ix = f ∧ (stS h).1 ⟨1, (bl : Int), (ix : Int)⟩ = some ⟨1, bl, ix, 0, xb⟩) := ⟨Nat.le_trans hl (show 2 ≤ 5 by decide), hf, (hst _ _).trans HSt.out.1⟩
  clear x o HX5 HC hl hf hst HSt
  have HC : Hid (Calls _ _ _ w6 _) := HX6.out.1.held
  go_wp2_with fail
  refine HC.out.mono ?_
  rintro e9 w7 ⟨va, psa, ssa, rfl, ha, ta, ea, la, x, o⟩
  have HX7 : Hid (D8 w w7 N sh mp g bp d m gf dur h ∧ Ow w7 N vb xb ∧ Hr w7 N va psa) := ⟨x, o.ow HX6.out.2, ha⟩
  have HPa : Hid (Ths h ssa ∧ psa.map Prod.fst = hldL h (srt3 ssa) ∧ psa.length ≤ 1000) := ⟨ta, ea, la⟩
  clear x o HX6 HC ha ta ea la
  by_cases hlt : ep < f
  · have hlt2 : (ep : Int) < (f : Int) := by omega
    have HC : Hid (Calls _ _ _ w7 _) := HX7.out.1.fetch_low bl ix ep HQ.out.1 HQ.out.2.1 HQ.out.2.2.1 (by rw [HH.out.2.1]; exact hlt)
    go_wp2_with fail
    refine HC.out.mono ?_
    rintro e9 w8 ⟨rfl, x, o⟩
    have HX8 : Hid (D8 w w8 N sh mp g bp d m gf dur h ∧ Ow w8 N vb xb ∧ Hr w8 N va psa) := ⟨x, o.ow HX7.out.2.1, o.hr HX7.out.2.2⟩
    clear x o HX7 HC
    have k9 : Kp (fun _ => False) w8 (w8.alloc (.cells #[.int .u8 1, .int .u8 2] 5)) := (Kp.refl _ _).alloc _
    have o12 : Ow (w8.alloc (.cells #[.int .u8 1, .int .u8 2] 5)) w8.heap.size (.slice (some ⟨w8.heap.size, 0, none⟩) 2 2) [1, 2] := World.ownsRow_lit w8 #[.int .u8 1, .int .u8 2] 2 (Nat.le_refl _) (by unfold maxLen; omega) rfl
    have HX9 : Hid (D8 w (w8.alloc (.cells #[.int .u8 1, .int .u8 2] 5)) N sh mp g bp d m gf dur h ∧ Ow (w8.alloc (.cells #[.int .u8 1, .int .u8 2] 5)) N vb xb ∧ Hr (w8.alloc (.cells #[.int .u8 1, .int .u8 2] 5)) N va psa) := ⟨(HX8.out.1.keep0 k9).1, (HX8.out.1.keep0 k9).2.ow HX8.out.2.1, (HX8.out.1.keep0 k9).2.hr HX8.out.2.2⟩
    have HC : Hid (Calls Tryz.prog 14 #[.pointer (some ⟨sh, 0, none⟩), .int .i64 (bl : Int), .int .i64 (ix : Int), .int .i64 (ep : Int), .slice (some ⟨w8.heap.size, 0, none⟩) 2 2] (w8.alloc (.cells #[.int .u8 1, .int .u8 2] 5)) _) := HX9.out.1.store_low bl ix ep HQ.out.1 HQ.out.2.1 HQ.out.2.2.1 HH.out.1 o12 (by decide) (by decide) (by rw [HH.out.2.1]; exact hlt)
    clear o12 k9 HX8
    go_wp2_with fail
    refine HC.out.mono ?_
    rintro e9 w9 ⟨rfl, x, o⟩
    have HXa : Hid (D8 w w9 N sh mp g bp d m gf dur h ∧ Ow w9 N vb xb ∧ Hr w9 N va psa) := ⟨x, o.ow HX9.out.2.1, o.hr HX9.out.2.2⟩
    clear x o HX9 HC
    have HC : Hid (Calls _ _ _ w9 _) := HXa.out.1.held
    go_wp2_with fail
    refine HC.out.mono ?_
    rintro e9 wa ⟨vc, psc, ssc, rfl, hc, tc, ec, lc, x, o⟩
    have HSm : Hid (Calls Tryz.prog 18 #[va, vc] wa fun e w' => e = .returned (.bool true) ∧ Kp (fun _ => False) wa w') := by
      have h9 := sameHeld_ok (o.hr HXa.out.2.2) hc ⟨Nat.le_trans HPa.out.2.2 (by decide), Nat.le_trans lc (by decide)⟩
      rw [decide_eq_true (by rw [HPa.out.2.1, ec, srt3_perm (HPa.out.1.perm tc)])] at h9
      exact h9
    have HXq : Hid (D8 w wa N sh mp g bp d m gf dur h ∧ Ow wa N vb xb) := ⟨x, o.ow HXa.out.2.1⟩
    clear x o HXa HC hc tc ec lc
    go_wp2_with fail
    refine HSm.out.mono ?_
    rintro e9 wb ⟨rfl, kb⟩
    have HXc : Hid (D8 w wb N sh mp g bp d m gf dur h ∧ Ow wb N vb xb) := ⟨(HXq.out.1.keep0 kb).1, (HXq.out.1.keep0 kb).2.ow HXq.out.2⟩
    clear kb HXq HSm
    have HC : Hid (Calls Tryz.prog 19 #[.pointer (some ⟨sh, 0, none⟩), .int .i64 (bl : Int), .int .i64 (ix : Int)] wb fun e u' => e = .returned (.int .i64 (f : Int)) ∧ u' = wb) := by
      have h9 := HXc.out.1.fenced bl ix HQ.out.1 HQ.out.2.1
      rw [HH.out.2.1] at h9
      exact h9
    go_wp2_with fail
    refine HC.out.mono ?_
    rintro e9 wc ⟨rfl, hw9⟩
    have hw8 := hw9.symm
    subst hw8
    clear hw9 HC
    go_wp2
    go_ret
    exact ⟨rfl, HXc.out.1.k⟩
  · have hlt2 : ¬ (ep : Int) < (f : Int) := by omega
    have HXb0 := HXb
    have HC : Hid (Calls _ _ _ w7 _) := HX7.out.1.fetch_some bl ix ep HQ.out.1 HQ.out.2.1 HQ.out.2.2.1 (by rw [HH.out.2.1]; omega) HH.out.2.2
    clear HXb
    go_wp2_with fail
    refine HC.out.mono ?_
    rintro e9 w8 ⟨vx, rfl, ox, x, o⟩
    have HX8 : Hid (D8 w w8 N sh mp g bp d m gf dur h ∧ Ow w8 N vb xb ∧ Hr w8 N va psa ∧ Ow w8 N vx xb) := ⟨x, o.ow HX7.out.2.1, o.hr HX7.out.2.2, ox⟩
    clear x o ox HX7 HC
    have k9 : Kp (fun _ => False) w8 (w8.alloc (.cells #[.int .u8 1, .int .u8 2] 5)) := (Kp.refl _ _).alloc _
    have o12 : Ow (w8.alloc (.cells #[.int .u8 1, .int .u8 2] 5)) w8.heap.size (.slice (some ⟨w8.heap.size, 0, none⟩) 2 2) [1, 2] := World.ownsRow_lit w8 #[.int .u8 1, .int .u8 2] 2 (Nat.le_refl _) (by unfold maxLen; omega) rfl
    have HX9 : Hid (D8 w (w8.alloc (.cells #[.int .u8 1, .int .u8 2] 5)) N sh mp g bp d m gf dur h ∧ Ow (w8.alloc (.cells #[.int .u8 1, .int .u8 2] 5)) N vb xb ∧ Hr (w8.alloc (.cells #[.int .u8 1, .int .u8 2] 5)) N va psa ∧ Ow (w8.alloc (.cells #[.int .u8 1, .int .u8 2] 5)) N vx xb) := ⟨(HX8.out.1.keep0 k9).1, (HX8.out.1.keep0 k9).2.ow HX8.out.2.1, (HX8.out.1.keep0 k9).2.hr HX8.out.2.2.1, (HX8.out.1.keep0 k9).2.ow HX8.out.2.2.2⟩
    have HC : Hid (Calls Tryz.prog 14 #[.pointer (some ⟨sh, 0, none⟩), .int .i64 (bl : Int), .int .i64 (ix : Int), .int .i64 (ep : Int), .slice (some ⟨w8.heap.size, 0, none⟩) 2 2] (w8.alloc (.cells #[.int .u8 1, .int .u8 2] 5)) fun e9 u' => e9 = .returned (.int .i64 82) ∧ D8 w u' N sh mp g bp d m gf dur h ∧ Oks N (w8.alloc (.cells #[.int .u8 1, .int .u8 2] 5)) u') := by
      have h9 := HX9.out.1.store_there bl ix ep HQ.out.1 HQ.out.2.1 HQ.out.2.2.1 HH.out.1 o12 (by decide) (by decide) (by rw [HH.out.2.1]; omega) HH.out.2.2
      rw [if_neg HXb0.out.2.2.2] at h9
      exact h9
    clear o12 k9 HX8
    go_wp2_with fail
    refine HC.out.mono ?_
    rintro e9 w9 ⟨rfl, x, o⟩
    have HXa : Hid (D8 w w9 N sh mp g bp d m gf dur h ∧ Ow w9 N vb xb ∧ Hr w9 N va psa ∧ Ow w9 N vx xb) := ⟨x, o.ow HX9.out.2.1, o.hr HX9.out.2.2.1, o.ow HX9.out.2.2.2⟩
    clear x o HX9 HC
    have HC : Hid (Calls _ _ _ w9 _) := HXa.out.1.held
    go_wp2_with fail
    refine HC.out.mono ?_
    rintro e9 wa ⟨vc, psc, ssc, rfl, hc, tc, ec, lc, x, o⟩
    have HSm : Hid (Calls Tryz.prog 18 #[va, vc] wa fun e w' => e = .returned (.bool true) ∧ Kp (fun _ => False) wa w') := by
      have h9 := sameHeld_ok (o.hr HXa.out.2.2.1) hc ⟨Nat.le_trans HPa.out.2.2 (by decide), Nat.le_trans lc (by decide)⟩
      rw [decide_eq_true (by rw [HPa.out.2.1, ec, srt3_perm (HPa.out.1.perm tc)])] at h9
      exact h9
    have HXb : Hid (D8 w wa N sh mp g bp d m gf dur h ∧ Ow wa N vb xb ∧ Ow wa N vx xb) := ⟨x, o.ow HXa.out.2.1, o.ow HXa.out.2.2.2⟩
    clear x o HXa HC hc tc ec lc
    go_wp2_with fail
    refine HSm.out.mono ?_
    rintro e9 wb ⟨rfl, kb⟩
    have HXc : Hid (D8 w wb N sh mp g bp d m gf dur h ∧ Ow wb N vb xb ∧ Ow wb N vx xb) := ⟨(HXb.out.1.keep0 kb).1, (HXb.out.1.keep0 kb).2.ow HXb.out.2.1, (HXb.out.1.keep0 kb).2.ow HXb.out.2.2⟩
    clear kb HXb HSm
    have HC : Hid (Calls Tryz.prog 19 #[.pointer (some ⟨sh, 0, none⟩), .int .i64 (bl : Int), .int .i64 (ix : Int)] wb fun e u' => e = .returned (.int .i64 (f : Int)) ∧ u' = wb) := by
      have h9 := HXc.out.1.fenced bl ix HQ.out.1 HQ.out.2.1
      rw [HH.out.2.1] at h9
      exact h9
    go_wp2_with fail
    refine HC.out.mono ?_
    rintro e9 wc ⟨rfl, hw9⟩
    have hw8 := hw9.symm
    subst hw8
    clear hw9 HC
    have HEq : Hid (Calls Tryz.prog 20 #[vx, vb] wb fun e u' => e = .returned (.bool true) ∧ u' = wb) := by
      have h9 := eq_own HXc.out.2.2 HXc.out.2.1 HXb0.out.2.2.1 HXb0.out.2.2.1
      rw [decide_eq_true rfl] at h9
      exact h9
    go_wp2_with fail
    refine HEq.out.mono ?_
    rintro e9 wc ⟨rfl, hw9⟩
    have hw8 := hw9.symm
    subst hw8
    clear hw9 HEq
    go_wp2
    go_ret
    exact ⟨rfl, HXc.out.1.k⟩
end Go.Proofs.YtmooddbhcccicaaGreatDoor

/- ShelfSynced, ahead of its walk. -/
namespace Go.Proofs.YtmooddbhcccicaaGreatDoor
set_option linter.unusedVariables false
set_option linter.unusedSimpArgs false
open Go.RowKit Go.Deep Go.Maps

theorem held_hd {u : World} {Z : Nat → Prop} {sh mp g : Nat} {h : List Rc} (x : Sk u Z sh mp g h) :
    Calls Tryz.prog 16 #[.pointer (some ⟨sh, 0, none⟩)] u fun e u' => ∃ p c rs ss, e = .returned (.slice p rs.length c) ∧ Kp (fun _ => False) u u' ∧ HdZ u' (fun b => u.heap.size ≤ b ∧ b < u'.heap.size) p rs ∧ Ths h ss ∧ rs = hldL h (srt3 ss) ∧ rs.length ≤ 1000 := by
  refine (held_ok x).mono ?_
  rintro e u' ⟨v, ps, ss, rfl, k, hh, ht, he⟩
  obtain ⟨p, c, ev, hz⟩ := hh.hdz
  refine ⟨p, c, ps.map Prod.fst, ss, by rw [ev], k, hz, ht, he, ?_⟩
  rw [he]
  have h2 : (hldL h (srt3 ss)).length ≤ (srt3 ss).length := List.length_filterMap_le _ _
  have h3 := ht.len x
  rw [srt3_len] at h2
  omega
/-- what may lie where a shelf's bytes lie: all that is new, but the row of states -/
def Zv (N : Nat) (v : Value) : Nat → Prop := fun b => N ≤ b ∧ ¬ v.ownBlock = some b
/-- a shelf of few records, the law's own: y of them are durable; beside it a row v of the law's -/
structure S8 (w u : World) (N : Nat) (v : Value) (sh mp g bp d m gf b y : Nat) (dur : List Nat) (h : List Rc) : Prop where
  s : Shf u (Zv N v) sh mp g bp d m gf 298 b b 0 1 y dur h
  k : Kp (fun _ => False) w u
  n : N ≤ u.heap.size
  z : w.heap.size ≤ sh ∧ w.heap.size ≤ mp ∧ w.heap.size ≤ g ∧ w.heap.size ≤ gf ∧ w.heap.size ≤ m ∧ w.heap.size ≤ d ∧ w.heap.size ≤ bp
  sm : Sm h
  dn : sh < N ∧ mp < N ∧ g < N ∧ gf < N ∧ m < N ∧ d < N ∧ bp < N ∧ d ≠ g ∧ d ≠ gf
  vb : ∀ c, v.ownBlock = some c → N ≤ c ∧ c < u.heap.size
  wn : w.heap.size ≤ N
  tn : (0 : Nat) < N
section
variable {w u : World} {N sh mp g bp d m gf b y : Nat} {v : Value} {dur : List Nat} {h : List Rc}
theorem S8.sw (x : S8 w u N v sh mp g bp d m gf b y dur h) : ∀ c, N ≤ c → ¬ SW sh mp g m gf c := fun c hc e => by
  have := x.dn
  rcases e with e | e | e | e | e <;> omega
theorem S8.dm (x : S8 w u N v sh mp g bp d m gf b y dur h) : ∀ c, N ≤ c → ¬ (c = d ∨ c = m) := fun c hc e => by
  have := x.dn
  rcases e with e | e <;> omega
theorem S8.keep0 (x : S8 w u N v sh mp g bp d m gf b y dur h) {u' : World} (k : Kp (fun _ => False) u u') : S8 w u' N v sh mp g bp d m gf b y dur h :=
  ⟨x.s.keep0 k, x.k.trans k (fun _ _ e => e), Nat.le_trans x.n k.size, x.z, x.sm, x.dn, fun c hc => ⟨(x.vb c hc).1, Nat.lt_of_lt_of_le (x.vb c hc).2 k.size⟩, x.wn, x.tn⟩
/-- the row has grown -/
theorem S8.row (x : S8 w u N v sh mp g bp d m gf b y dur h) {u' : World} {v' : Value} (k : Kp (fun c => v.ownBlock = some c) u u') (hv : v'.ownBlock = v.ownBlock ∨ v'.ownBlock = some u.heap.size) (hb : ∀ c, v'.ownBlock = some c → c < u'.heap.size) : S8 w u' N v' sh mp g bp d m gf b y dur h := by
  have dn := x.dn
  have hlt : ∀ c, c < N → ¬ v.ownBlock = some c := fun c hc e => by have := (x.vb c e).1; omega
  have hlt2 : ∀ c, c < N → ¬ Zv N v' c := fun c hc e => by have := e.1; omega
  obtain ⟨q, lt, T, hl⟩ := x.s.lg
  have hsk : Sk u' (Zv N v') sh mp g h := ((x.s.sk.zb x.sm).keep k (hlt sh dn.1) (hlt mp dn.2.1) (fun c hc => hc.1.2)).zm (fun c hc => ⟨hc.1.1, fun e => by
    rcases hv with e9 | e9
    · exact hc.1.2 (e9.symm.trans e)
    · rw [e9] at e
      injection e with e
      have := hc.2
      omega⟩)
  refine ⟨⟨⟨q, lt, T, hl.keep k (hlt g (by omega)) (hlt bp (by omega)) (hlt d (by omega)) (hlt m (by omega)) (hlt gf (by omega))⟩, hsk, ?_, ⟨x.s.ap.1, hlt2 sh (by omega), hlt2 mp (by omega)⟩, fun c hc => ⟨hlt2 c (by rcases hc with e | e | e <;> omega), (x.s.aq c hc).2⟩, x.s.ar, x.s.at_⟩, x.k.trans k (fun c hc e => by have h1 := (x.vb c e).1; have h2 := x.wn; omega), Nat.le_trans x.n k.size, x.z, x.sm, x.dn, fun c hc => ⟨?_, hb c hc⟩, x.wn, x.tn⟩
  · exact fun j hj => k.cellv (x.s.tu j hj) (fun e => by
      have h1 := (x.vb _ e).1
      have h2 := x.tn
      have h3 : (⟨0, j, none⟩ : Addr).block = 0 := rfl
      omega)
  · rcases hv with e | e
    · exact (x.vb c (e.symm.trans hc)).1
    · rw [e] at hc
      injection hc with hc
      have := x.n
      omega
/-- the row is given up -/
theorem S8.give (x : S8 w u N v sh mp g bp d m gf b y dur h) : S8 w u N (.slice none 0 0) sh mp g bp d m gf b y dur h := by
  have dn := x.dn
  have hlt2 : ∀ c, c < N → ¬ Zv N (.slice none 0 0) c := fun c hc e => by have := e.1; omega
  exact ⟨⟨x.s.lg, x.s.sk.zm (fun c hc => ⟨hc.1, fun e => by cases e⟩), x.s.tu, ⟨x.s.ap.1, hlt2 sh (by omega), hlt2 mp (by omega)⟩, fun c hc => ⟨hlt2 c (by rcases hc with e | e | e <;> omega), (x.s.aq c hc).2⟩, x.s.ar, x.s.at_⟩, x.k, x.n, x.z, x.sm, x.dn, fun c hc => (by cases hc), x.wn, x.tn⟩
theorem S8.put {u' : World} {h' : List Rc} (x : S8 w u N v sh mp g bp d m gf b y dur h) (k : Kp (SW sh mp g m gf) u u') (hh : h' = h ∨ ∃ r, Cn r ∧ secS r ≤ 3 ∧ (r.k = 2 ∨ 1 ≤ r.b.length) ∧ h' = h ++ [r]) (s : Shf u' (Zv N v) sh mp g bp d m gf 298 b b 0 1 y dur h') : (h' = h ∨ ∃ r, h' = h ++ [r]) ∧ S8 w u' N v sh mp g bp d m gf b y dur h' := by
  have z := x.z
  refine ⟨?_, s, x.k.trans k (fun c hc e => ?_), Nat.le_trans x.n k.size, x.z, ?_, x.dn, fun c hc => ⟨(x.vb c hc).1, Nat.lt_of_lt_of_le (x.vb c hc).2 k.size⟩, x.wn, x.tn⟩
  · rcases hh with e | ⟨r, _, _, _, e⟩
    · exact Or.inl e
    · exact Or.inr ⟨r, e⟩
  · rcases e with e | e | e | e | e <;> omega
  · rcases hh with e | ⟨r, h1, h2, h3, e⟩
    · rw [e]; exact x.sm
    · rw [e]; exact x.sm.snoc h1 h2 h3
theorem S8.store (x : S8 w u N v sh mp g bp d m gf b y dur h) (hn : h.length ≤ 45) (z0 z1 z2 : Int) (p : Option Addr) (n cp : Nat) (xs : List Nat) (hr : Rb u p n xs) (hn1 : n ≤ 100) :
    Calls Tryz.prog 14 #[.pointer (some ⟨sh, 0, none⟩), .int .i64 z0, .int .i64 z1, .int .i64 z2, .slice p n cp] u fun e9 u' => (∃ q, e9 = .returned (.int .i64 q)) ∧ Kp (SW sh mp g m gf) u u' ∧ ∃ h', (h' = h ∨ ∃ r, h' = h ++ [r]) ∧ S8 w u' N v sh mp g bp d m gf b y dur h' := by
  refine (sstore_any x.s x.sm hn z0 z1 z2 p n cp xs hr hn1 (fun c hc => ⟨Nat.le_trans x.n hc, fun e => by have := (x.vb c e).2; omega⟩)).mono ?_
  rintro e9 u' ⟨hq, k, h', hh, s⟩
  exact ⟨hq, k, h', x.put k hh s⟩
theorem S8.drop (x : S8 w u N v sh mp g bp d m gf b y dur h) (hn : h.length ≤ 45) (z0 z1 : Int) :
    Calls Tryz.prog 22 #[.pointer (some ⟨sh, 0, none⟩), .int .i64 z0, .int .i64 z1] u fun e9 u' => (∃ q, e9 = .returned (.int .i64 q)) ∧ Kp (SW sh mp g m gf) u u' ∧ ∃ h', (h' = h ∨ ∃ r, h' = h ++ [r]) ∧ S8 w u' N v sh mp g bp d m gf b y dur h' := by
  refine (sdrop_any x.s x.sm hn z0 z1).mono ?_
  rintro e9 u' ⟨hq, k, h', hh, s⟩
  exact ⟨hq, k, h', x.put k hh s⟩
theorem S8.sync (x : S8 w u N v sh mp g bp d m gf b y dur h) :
    Calls Tryz.prog 21 #[.pointer (some ⟨sh, 0, none⟩)] u fun e9 u' => e9 = .returned (.int .i64 0) ∧ Kp (fun c => c = d ∨ c = m) u u' ∧ ∃ dur', S8 w u' N v sh mp g bp d m gf b h.length dur' h := by
  refine (ssync_ok x.s ⟨fun e => by have := x.dn; have := e.1; omega, x.dn.2.2.2.2.2.2.2⟩).mono ?_
  rintro e9 u' ⟨rfl, k, dur', s⟩
  have z := x.z
  exact ⟨rfl, k, dur', s, x.k.trans k (fun c hc e => by rcases e with e | e <;> omega), Nat.le_trans x.n k.size, x.z, x.sm, x.dn, fun c hc => ⟨(x.vb c hc).1, Nat.lt_of_lt_of_le (x.vb c hc).2 k.size⟩, x.wn, x.tn⟩
theorem S8.held (x : S8 w u N v sh mp g bp d m gf b y dur h) :
    Calls Tryz.prog 16 #[.pointer (some ⟨sh, 0, none⟩)] u fun e u' => ∃ p c rs ss, e = .returned (.slice p rs.length c) ∧ Kp (fun _ => False) u u' ∧ HdZ u' (fun b => u.heap.size ≤ b ∧ b < u'.heap.size) p rs ∧ Ths h ss ∧ rs = hldL h (srt3 ss) ∧ rs.length ≤ 1000 := held_hd x.s.sk
end
/-- what was there at some time: a beginning of the history -/
def At8 (h : List Rc) (j : Nat) (rs : List Rc) : Prop := ∃ ss, Ths (h.take j) ss ∧ rs = hldL (h.take j) (srt3 ss)
/-- all beginnings from y on, up to (not with) e, are among the rows -/
def Cov (h : List Rc) (y e : Nat) (ls : List (List Rc)) : Prop := ∀ j, y ≤ j → j < e → ∃ rs ∈ ls, At8 h j rs
theorem Cov.put {h h' : List Rc} {y : Nat} {ls : List (List Rc)} (hc : Cov h y (h.length + 1) ls) (hh : h' = h ∨ ∃ r, h' = h ++ [r]) : Cov h' y h'.length ls := fun j h1 h2 => by
  have hj : j < h.length + 1 := by
    rcases hh with e | ⟨r, e⟩
    · rw [e] at h2; omega
    · rw [e, List.length_append] at h2; exact h2
  obtain ⟨rs, hm, ss, ht, e⟩ := hc j h1 hj
  have htk : h'.take j = h.take j := by
    rcases hh with e | ⟨r, e⟩
    · rw [e]
    · rw [e, List.take_append_of_le_length (by omega)]
  exact ⟨rs, hm, ss, by rw [htk]; exact ht, by rw [htk]; exact e⟩
theorem Cov.add {h : List Rc} {y : Nat} {ls : List (List Rc)} {rs : List Rc} {ss : List K3} (hc : Cov h y h.length ls) (ht : Ths h ss) (e : rs = hldL h (srt3 ss)) : Cov h y (h.length + 1) (ls ++ [rs]) := fun j h1 h2 => by
  by_cases hj : j < h.length
  · obtain ⟨r, hm, ha⟩ := hc j h1 hj
    exact ⟨r, List.mem_append_left _ hm, ha⟩
  · have : j = h.length := by omega
    subst this
    refine ⟨rs, List.mem_append_right _ (List.mem_singleton.2 rfl), ss, ?_, ?_⟩
    · rw [List.take_length]; exact ht
    · rw [List.take_length]; exact e
theorem At8.same {h : List Rc} {j : Nat} {a : List Rc} {ss : List K3} (ha : At8 h j a) (ht : Ths (h.take j) ss) : a = hldL (h.take j) (srt3 ss) := by
  obtain ⟨s2, h1, h2⟩ := ha
  rw [h2, srt3_perm (h1.perm ht)]

set_option maxRecDepth 100000 in
theorem sameHeld_hd {p1 p2 : Option Addr} {c1 c2 : Nat} {a b : List Rc} {w : World} (h1 : Hd w p1 a) (h2 : Hd w p2 b) (hl : a.length ≤ 2000 ∧ b.length ≤ 2000) :
    Calls Tryz.prog 18 #[.slice p1 a.length c1, .slice p2 b.length c2] w fun e w' => e = .returned (.bool (decide (a.map keyR = b.map keyR))) ∧ Kp (fun _ => False) w w' := by
  have H : Hid (Calls _ _ _ w _) := eqf_hd p1 p2 c1 c2 a b w h1 h2 hl
  obtain ⟨B, hB⟩ : ∃ B, B = decide (a.map keyR = b.map keyR) := ⟨_, rfl⟩
  obtain ⟨n1, hn1⟩ : ∃ n, n = a.length := ⟨_, rfl⟩
  obtain ⟨n2, hn2⟩ : ∃ n, n = b.length := ⟨_, rfl⟩
  rw [← hB, ← hn1, ← hn2] at H
  rw [← hB, ← hn1, ← hn2]
  clear h1 h2 hl hB hn1 hn2
  go_enter Tryz.func18, Tryz.ntmps18
  go_wp2_with fail
  refine H.out.mono ?_
  rintro e9 w9 ⟨rfl, k9⟩
  clear H
  go_wp2
  go_ret
  exact ⟨rfl, k9⟩
theorem u64_succ {L : Nat} (h : (L : Int) ≤ 9223372036854775807) : IntKind.u64.wrap (wrap64 ((L : Int) + 1)) = ((L + 1 : Nat) : Int) := by
  simp [IntKind.wrap, IntKind.bits, IntKind.signed]
  unfold wrap64
  omega
end Go.Proofs.YtmooddbhcccicaaGreatDoor

/- ShelfSynced (laid by scripts/mkjrj.py). -/
namespace Go.Proofs.YtmooddbhcccicaaGreatDoor
set_option linter.unusedVariables false
set_option linter.unusedSimpArgs false
open Go.RowKit Go.Deep Go.Maps

theorem tmod3b (op : Int) : wrap64 (op.tmod 3) = op.tmod 3 := by
  have h1 := Int.tmod_lt_of_pos op (show (0 : Int) < 3 by decide)
  have h2 := Int.lt_tmod_of_pos op (show (0 : Int) < 3 by decide)
  unfold wrap64
  omega
theorem min100b (n : Nat) : min (n : Int) 100 = ((min n 100 : Nat) : Int) := by omega

set_option maxRecDepth 100000 in
set_option maxHeartbeats 12800000 in
theorem shelfSynced_walk (v0 : Value) (L : Nat) (z1 mask torn nn : Int) (w : World) (h : Dos8 w v0 L) (hz1 : (Lit.int .i64 z1).wf = true) (hmask : (Lit.int .u64 mask).wf = true) (htorn : (Lit.int .i64 torn).wf = true) (hnn : (Lit.int .i64 nn).wf = true) (ht : Turns w) :
    Calls Tryz.prog 5 #[v0, .int .i64 z1, .int .u64 mask, .int .i64 torn, .int .i64 nn] w fun e w' => e = .returned (.bool true) ∧ Kp (fun _ => False) w w' := by
  obtain ⟨g0, gb, go, cap, rfl, hg0, hdo⟩ := h.form
  have hmany := h.many
  have HFr : Hid (Calls _ _ _ w _) := fresh8_ok w ht
  have HWt : Hid ((Lit.int .i64 torn).wf = true) := htorn
  have HT : Hid (Turns w) := ht
  have HTn : Hid ((0 : Nat) < w.heap.size) := World.block_lt_of_cell? _ _ (ht 0 (by decide))
  have HDo : Hid (∀ r, r < L → ∃ (op bl ix ep tn nn : Int) (pb : Option Addr) (cb : Nat) (xs : List Nat) (mk : Int), Do8 w gb (go + r * 8) op bl ix ep tn nn pb cb xs mk) := hdo
  have HG0 : Hid (0 < L → g0 = some ⟨gb, go, none⟩) := hg0
  have HM : Hid ((L : Int) ≤ 9223372036854775807) := hmany
  obtain ⟨U, hU0⟩ : ∃ U, U = L + 1 := ⟨_, rfl⟩
  have hU : IntKind.u64.wrap (wrap64 ((L : Int) + 1)) = (U : Int) := by rw [hU0]; exact u64_succ hmany
  have hUn : ¬ (U : Int) = 0 := by omega
  clear h hdo hg0 ht hz1 hmask htorn hnn hmany hU0
  go_enter Tryz.func5, Tryz.ntmps5
  go_wp2_with fail
  refine HFr.out.mono ?_
  rintro e9 w1 ⟨sh, mp, g, gf, bp, d, m, dur0, rfl, k1, hz1, s1⟩
  obtain ⟨N, hN⟩ : ∃ N, N = w1.heap.size := ⟨_, rfl⟩
  rw [← hN] at s1
  have HX1 : Hid (S8 w w1 N (.slice none 0 0) sh mp g bp d m gf 1 0 dur0 []) := by
    obtain ⟨q, lt, T, hl⟩ := s1.lg
    have hb := hl.blk
    have ha := s1.ap
    have h1 := k1.size
    have h2 := HTn.out
    exact ⟨⟨s1.lg, s1.sk.zm (fun c hc => ⟨hc, fun e => by cases e⟩), s1.tu, ⟨s1.ap.1, fun e => ha.2.1 e.1, fun e => ha.2.2 e.1⟩, fun x hx => ⟨fun e => (s1.aq x hx).1 e.1, (s1.aq x hx).2⟩, s1.ar, s1.at_⟩, k1, Nat.le_of_eq hN, ⟨hz1.1, hz1.2.1, hz1.2.2.1, hz1.2.2.2.1, hz1.2.2.2.2.2.2, hz1.2.2.2.2.2.1, hz1.2.2.2.2.1⟩, fun r hr => absurd hr List.not_mem_nil, ⟨by omega, by omega, by omega, by omega, by omega, by omega, by omega, fun e => hl.lp.gd e.symm, fun e => hl.lp.fd e.symm⟩, fun c hc => (by cases hc), by omega, by omega⟩
  have k2 : Kp (fun _ => False) w1 (w1.alloc (.cells #[] 47)) := (Kp.refl _ _).alloc _
  have HX2 : Hid (S8 w (w1.alloc (.cells #[] 47)) N (.slice (some ⟨w1.heap.size, 0, none⟩) 0 0) sh mp g bp d m gf 1 0 dur0 [] ∧ Ors (w1.alloc (.cells #[] 47)) N (.slice (some ⟨w1.heap.size, 0, none⟩) 0 0) []) := by
    refine ⟨HX1.out.row (k2.mono (fun _ _ e => e.elim)) (Or.inr rfl) (fun c hc => ?_), [], ?_, rfl, fun i x u hx => by cases hx⟩
    · have e : w1.heap.size = c := Option.some.inj hc
      rw [← e]
      simp
    · rw [hN]
      exact World.ownsRow_made w1 #[] 0 (Nat.le_refl _) (by unfold maxLen; omega) rfl
  clear k1 hz1 s1 HFr hN k2 HX1
  go_wp2_with fail
  obtain ⟨A, hA0⟩ : ∃ A, A = wrap64 ((IntKind.u64.wrap z1).tmod (U : Int)) := ⟨_, rfl⟩
  rw [← hA0]
  clear hA0
  go_loopg [13, 37] L (fun gk v iv wr => ∃ (i y : Nat) (dur : List Nat) (h : List Rc) (ls : List (List Rc)) (v1 : Value), i ≤ L ∧ i ≤ 41 ∧ gk = L - i ∧ v = v1 ∧ iv = .int .i64 (i : Int) ∧ Hid (S8 w wr N v1 sh mp g bp d m gf 1 y dur h ∧ Ors wr N v1 ls ∧ Cov h y h.length ls ∧ (h.length ≤ i ∧ ls.length ≤ i ∧ y ≤ h.length)))
  case atStart => exact ⟨0, 0, dur0, [], [], _, Nat.zero_le _, by decide, rfl, rfl, rfl, HX2.out.1, HX2.out.2, fun j _ hj => absurd hj (Nat.not_lt_zero _), ⟨Nat.le_refl _, Nat.le_refl _, Nat.le_refl _⟩⟩
  case round =>
    obtain ⟨i, y, dur, h, ls, v, hi, hi41, rfl, hvv, rfl, HK⟩ := hrel
    have hv2 := hvv.symm
    subst hv2
    clear hvv HX2
    by_cases hlt : i < L
    · have hlt2 : (i : Int) < (L : Int) := by omega
      have hg0 := HG0.out (by omega)
      subst hg0
      obtain ⟨op, bl, ix, ep, tn, n2, pb, cb, xs, mk, dd⟩ := HDo.out i hlt
      have hwi : wrap64 ((i : Int) + 1) = ((i + 1 : Nat) : Int) := by have := HM.out; unfold wrap64; omega
      obtain ⟨M, hM0⟩ : ∃ M, M = xs.length := ⟨_, rfl⟩
      have HKw := HK.out.1.k
      have d0 := HKw.cellv dd.c0 id
      have d1 := HKw.cellv dd.c1 id
      have d2 := HKw.cellv dd.c2 id
      have d3 := HKw.cellv dd.c3 id
      have d4 := HKw.cellv dd.c4 id
      have d5 := HKw.cellv dd.c5 id
      have d6 := HKw.cellv dd.c6 id
      have d7 := HKw.cellv dd.c7 id
      rw [← hM0] at d6
      have HD : Hid (Do8 w gb (go + i * 8) op bl ix ep tn n2 pb cb xs mk ∧ M = xs.length ∧ i < L) := ⟨dd, hM0, hlt⟩
      obtain ⟨h15, hh15⟩ : ∃ x, x = wr.heap.size := ⟨_, rfl⟩
      obtain ⟨w2, hw2⟩ : ∃ z, z = wr.alloc (.cells #[.int .i64 op, .int .i64 bl, .int .i64 ix, .int .i64 ep, .int .i64 tn, .int .i64 n2, .slice pb M cb, .int .u64 mk] 37) := ⟨_, rfl⟩
      have k2 : Kp (fun _ => False) wr w2 := by rw [hw2]; exact (Kp.refl _ _).alloc _
      have HB2 : Hid (Lv w2 h15 (#[.int .i64 op, .int .i64 bl, .int .i64 ix, .int .i64 ep, .int .i64 tn, .int .i64 n2, .slice pb M cb, .int .u64 mk] : Array Value).toList ∧ N ≤ h15 ∧ h15 < w2.heap.size ∧ ¬ v.ownBlock = some h15) := by
        refine ⟨by rw [hw2, hh15]; exact Lv.new wr _ _, by rw [hh15]; exact HK.out.1.n, by rw [hw2, hh15]; simp, fun e => ?_⟩
        have := (HK.out.1.vb _ e).2
        omega
      have HS2 : Hid (S8 w w2 N v sh mp g bp d m gf 1 y dur h ∧ Ors w2 N v ls ∧ Cov h y h.length ls ∧ (h.length ≤ i ∧ ls.length ≤ i ∧ y ≤ h.length)) := ⟨HK.out.1.keep0 k2, HK.out.2.1.keep k2 (fun _ _ e => e), HK.out.2.2⟩
      clear dd hM0 HKw k2 HK hlt
      by_cases hbr : 40 < i
      · have hbr2 : (40 : Int) < (i : Int) := by omega
        go_upto_region 19 with fail
        rw [← hw2]
        clear hw2 hh15 d0 d1 d2 d3 d4 d5 d6 d7 HD HB2 hlt2 hwi
        have HS : Hid (S8 w w2 N v sh mp g bp d m gf 1 y dur h ∧ Ors w2 N v ls ∧ Cov h y h.length ls ∧ (h.length ≤ i ∧ ls.length ≤ i)) := ⟨HS2.out.1, HS2.out.2.1, HS2.out.2.2.1, HS2.out.2.2.2.1, HS2.out.2.2.2.2.1⟩
        clear HS2
        have HHe : Hid (Calls _ _ _ w2 _) := HS.out.1.held
        go_wp2_with fail
        refine HHe.out.mono ?_
        rintro e9 ua ⟨pr, cr, rs, ss, rfl, ka, hz, hth, hrs, hrl⟩
        obtain ⟨R, hR⟩ : ∃ R, R = rs.length := ⟨_, rfl⟩
        obtain ⟨ub, hub⟩ : ∃ z, z = ua.alloc (.cells #[.slice pr R cr] 47) := ⟨_, rfl⟩
        have kb : Kp (fun _ => False) ua ub := by rw [hub]; exact (Kp.refl _ _).alloc _
        have kub : Kp (fun _ => False) w2 ub := ka.trans kb (fun _ _ e => e)
        have HCb : Hid (ub.cell? ⟨ua.heap.size, 0, none⟩ = some (.slice pr R cr)) := by rw [hub]; exact (show Lv _ _ [.slice pr R cr] from Lv.new ua _ _).cell (j := 0) rfl
        obtain ⟨vs, o1, o2, o3⟩ := HS.out.2.1
        obtain ⟨ln, hln⟩ : ∃ n, n = ls.length := ⟨_, rfl⟩
        have HVb := HS.out.1.vb
        have HO1 : Hid (ub.ownsRow N 47 1 v ln vs ∧ ln ≤ 45 ∧ N ≤ ub.heap.size) := ⟨by rw [hln]; exact ownsRow_keep o1 kub (fun _ _ e => e), by rw [hln]; have := HS.out.2.2.2; omega, (HS.out.1.keep0 kub).n⟩
        have HAp : Hid (∀ v' w', w'.ownsRow N 47 1 v' (ln + 1) (vs ++ [.slice pr R cr]) → Kp (fun b => (v).ownBlock = some b) ub w' → (v'.ownBlock = (v).ownBlock ∨ v'.ownBlock = some ub.heap.size) → S8 w w' N v' sh mp g bp d m gf 1 y dur h ∧ Ors w' N v' (ls ++ [rs]) ∧ Cov h y (h.length + 1) (ls ++ [rs])) := fun v' w' o7 k7 hv7 => by
          refine ⟨(HS.out.1.keep0 kub).row k7 hv7 (fun c hc => (ownBlock_lt o7 hc).2), Ors.app o2 o3 kub hrl ((hz.keep kb (fun _ _ e => e)).mono (fun b hb => ⟨Nat.le_trans HS.out.1.n hb.1, Nat.lt_of_lt_of_le hb.2 kb.size, fun e => by have := (HVb b e).2; have := hb.1; omega⟩)) (by rw [hR, hln] at o7; exact o7) k7 hv7, HS.out.2.2.1.add hth hrs⟩
        rw [← hR]
        clear ka hz hth hrs hrl kb kub o1 o2 o3 HHe HVb hR hln
        go_upto_region 20 with (refine wpList_append_hrow (ua.alloc (.cells #[.slice pr R cr] 47)) rfl _ _ rfl N v ln vs (.slice pr R cr) ua.heap.size rfl (by rw [← hub]; exact HO1.out.1) rfl rfl (by rw [← hub]; exact HCb.out) (by have := HO1.out.2.1; omega) (by rw [← hub]; exact HO1.out.2.2) ?_; intro v7 w7 o7 k7 hv7; rw [← hub] at k7 hv7)
        have HS7 : Hid (S8 w w7 N v7 sh mp g bp d m gf 1 y dur h ∧ Ors w7 N v7 (ls ++ [rs]) ∧ Cov h y (h.length + 1) (ls ++ [rs])) := HAp.out v7 w7 o7 k7 hv7
        have HLs : Hid ((ls ++ [rs]).length ≤ 45 ∧ h.length ≤ 45) := ⟨by rw [List.length_append]; have := HS.out.2.2.2; show _ + 1 ≤ _; omega, by have := HS.out.2.2.2; omega⟩
        clear o7 k7 hv7 HAp HO1 HCb hub HS
        obtain ⟨q, lt, T, hl⟩ := HS7.out.1.s.lg
        have HLg : Hid (Lg w7 g bp d m gf 298 q 1 1 0 1 lt y (h.map wrS) dur T) := hl
        have HDi : Hid (Calls _ _ _ w7 _) := dirty_ok hl.pt
        clear hl
        go_wp2_with fail
        refine HDi.out.mono ?_
        rintro e9 wa ⟨v2, rfl, ka, is2⟩
        obtain ⟨p2, cc2, rfl, rz2, hp2⟩ := is2.rz
        obtain ⟨zs, hzs⟩ : ∃ zs, zs = dks T (2 + 298) := ⟨_, rfl⟩
        rw [← hzs] at rz2 is2
        obtain ⟨Z, hZ⟩ : ∃ Z, Z = zs.length := ⟨_, rfl⟩
        have HZ : Hid (zs = dks T (2 + 298) ∧ Z = zs.length ∧ Z ≤ 300) := ⟨hzs, hZ, by rw [hZ, hzs]; exact dks_len T (2 + 298)⟩
        rw [← hzs, ← hZ]
        have HKe : Hid (Calls _ _ _ wa _) := kept8_ok p2 Z cc2 zs mask wa hZ rz2 (by have := HZ.out; omega)
        have HKa : Hid (Kp (fun _ => False) w7 wa) := ka
        clear ka is2 rz2 hp2 hzs hZ HDi
        go_wp2_with fail
        refine HKe.out.mono ?_
        rintro e9 wb ⟨v3, ks, rfl, kb, is3, hin, hkl⟩
        obtain ⟨p3, cc3, rfl, rz3, hp3⟩ := is3.rz
        have HLb : Lg wb g bp d m gf 298 q 1 1 0 1 lt y (h.map wrS) dur T := (HLg.out.keep0 HKa.out).keep0 kb
        have HCr : Hid (Calls _ _ _ wb _) := lg_crash HLb p3 cc3 ks torn nn (fun w' k' => rz3.keep k' (fun a ha e => by have h1 := (hp3 a ha).1; have h2 := (HLg.out.keep0 HKa.out).blk; have e' : a.block = d := e; omega)) (fun z hz => by
          have := hin z hz
          rw [HZ.out.1] at this
          obtain ⟨j, hj, _, rfl⟩ := mem_dks.1 this
          exact wf_nat j (by omega)) HWt.out (by have := HZ.out; omega)
        have HKb : Hid (Kp (fun _ => False) w7 wb) := HKa.out.trans kb (fun _ _ e => e)
        obtain ⟨Z3, hZ3⟩ : ∃ Z, Z = ks.length := ⟨_, rfl⟩
        rw [← hZ3] at HCr
        rw [← hZ3]
        clear kb is3 hin hkl rz3 hp3 HLb HKe hZ3
        go_wp2_with fail
        refine HCr.out.mono ?_
        rintro e9 wc ⟨rfl, kc, lc, _⟩
        have HKc : Hid (Kp (fun x => x = d ∨ x = m) w7 wc) := (HKb.out.mono (fun _ _ e => e.elim)).trans kc (fun _ _ e => e)
        have HKcw : Hid (Kp (fun _ => False) w wc) := HS7.out.1.k.trans HKc.out (fun b hb e9 => by have e' : b = d ∨ b = m := e9; have := HS7.out.1.z; omega)
        obtain ⟨k9, hk1, hk2, hop⟩ := sopen_any lc (fun r hr => (HS7.out.1.sm r hr).1) (by have := HLs.out.2; omega) (by decide) (by decide) (fun j hj => HKcw.out.cellv (HT.out j hj) id)
        have HOp : Hid (Calls _ _ _ wc _) := hop
        obtain ⟨r0, hr0m, hr0⟩ := HS7.out.2.2 k9 hk1 (by omega)
        have HR0 : Hid (r0 ∈ ls ++ [rs] ∧ At8 h k9 r0) := ⟨hr0m, hr0⟩
        clear kc lc hk1 hk2 hop HCr hr0m hr0 HLg HZ HKa HKb
        go_wp2_with fail
        refine HOp.out.mono ?_
        rintro e9 we ⟨sh2, mp2, g2, gf2, dur2, N2, rfl, ke, _, hN2, s2⟩
        have HKe : Hid (Kp (fun _ => False) w we) := HKcw.out.trans ke (fun b hb e9 => by have e' : b = d ∨ b = m := e9; have := HS7.out.1.z; omega)
        have HSk : Hid (Sk we (fun x => N2 ≤ x) sh2 mp2 g2 (h.take k9)) := s2.sk
        have HLf : Hid (Calls _ _ _ we _) := slife_ok s2
        have hOr : Ors we N v7 (ls ++ [rs]) := (HS7.out.2.1.keep HKc.out HS7.out.1.dm).keep ke HS7.out.1.dm
        obtain ⟨pv, cv, hv7, hcells⟩ := hOr.form
        obtain ⟨ln2, hln2⟩ : ∃ n, n = (ls ++ [rs]).length := ⟨_, rfl⟩
        rw [← hln2] at hv7 hcells
        have HL2 : Hid (ln2 = (ls ++ [rs]).length ∧ ln2 ≤ 45) := ⟨hln2, by rw [hln2]; exact HLs.out.1⟩
        have HCe : Hid (∀ i, i < ln2 → ∃ g o q d, pv = some ⟨g, o, none⟩ ∧ we.cell? ⟨g, o + i, none⟩ = some (.slice q ((ls ++ [rs]).getD i []).length d) ∧ ((ls ++ [rs]).getD i []).length ≤ 1000 ∧ Hd we q ((ls ++ [rs]).getD i [])) := hcells
        subst hv7
        clear ke hN2 s2 HOp HKc HKcw HS7 HLs hOr hcells hln2
        go_wp2_with fail
        refine HLf.out.mono ?_
        rintro e9 w9 ⟨rfl, hw9⟩
        have hw8 := hw9.symm
        subst hw8
        clear hw9 HLf
        go_wp2_with fail
        obtain ⟨lsx, hlsx⟩ : ∃ l, l = ls ++ [rs] := ⟨_, rfl⟩
        rw [← hlsx] at HL2 HCe HR0
        clear hlsx
        go_loopg [109] ln2 (fun gk iv wr2 => ∃ j : Nat, j ≤ ln2 ∧ gk = ln2 - j ∧ iv = .int .i64 (j : Int) ∧ Hid (Kp (fun _ => False) we wr2 ∧ ∀ j', j' < j → ¬ (lsx.getD j' []).map keyR = r0.map keyR))
        case atStart => exact ⟨0, Nat.zero_le _, rfl, rfl, Kp.refl _ _, fun j' hj => absurd hj (Nat.not_lt_zero _)⟩
        case round =>
          obtain ⟨j, hj, rfl, rfl, HK2⟩ := hrel
          by_cases hlt9 : j < ln2
          · have hlt8 : (j : Int) < (ln2 : Int) := by omega
            obtain ⟨gO, oO, q, dO, hpv, hcq, hq1, hq2⟩ := HCe.out j hlt9
            subst hpv
            have x0 := HK2.out.1.cellv hcq id
            have HHd : Hid (Hd wr q (lsx.getD j []) ∧ (lsx.getD j []).length ≤ 1000) := ⟨hq2.keep0 HK2.out.1, hq1⟩
            have HHe : Hid (Calls _ _ _ wr _) := held_hd (HSk.out.keep HK2.out.1 id id (fun _ _ => id))
            obtain ⟨M1, hM1⟩ : ∃ M, M = (lsx.getD j []).length := ⟨_, rfl⟩
            rw [← hM1] at x0
            have HM1 : Hid (M1 = (lsx.getD j []).length) := hM1
            have hwj : wrap64 ((j : Int) + 1) = ((j + 1 : Nat) : Int) := by have := HL2.out; unfold wrap64; omega
            have HJ9 : Hid (j < ln2) := hlt9
            clear hcq hq1 hq2 hM1 hlt9
            go_wp2_with fail
            refine HHe.out.mono ?_
            rintro e9 wx ⟨px, cx, rx, ssx, rfl, kx, hzx, htx, hrx, hlx⟩
            obtain rfl : rx = r0 := hrx.trans (HR0.out.2.same htx).symm
            have HSm := sameHeld_hd (c1 := dO) (c2 := cx) (HHd.out.1.keep0 kx) hzx.hd ⟨Nat.le_trans HHd.out.2 (by decide), Nat.le_trans hlx (by decide)⟩
            rw [← HM1.out] at HSm
            have HKx : Hid (Kp (fun _ => False) wr wx) := kx
            obtain ⟨M2, hM2⟩ : ∃ M, M = rx.length := ⟨_, rfl⟩
            rw [← hM2] at HSm
            rw [← hM2]
            clear kx hzx htx hrx hlx HHe hM2 HHd HM1
            by_cases heq : (lsx.getD j []).map keyR = rx.map keyR
            · rw [decide_eq_true heq] at HSm
              have HS9 : Hid (Calls _ _ _ wx _) := HSm
              clear HSm heq
              go_wp2_with fail
              refine HS9.out.mono ?_
              rintro e9 wy ⟨rfl, ky⟩
              have HKf : Hid (Kp (fun _ => False) w wy) := ((HKe.out.trans HK2.out.1 (fun _ _ e => e)).trans HKx.out (fun _ _ e => e)).trans ky (fun _ _ e => e)
              clear ky HS9
              go_wp2
              go_ret
              exact ⟨rfl, HKf.out⟩
            · rw [decide_eq_false heq] at HSm
              have HS9 : Hid (Calls _ _ _ wx _) := HSm
              have HNe : Hid (¬ (lsx.getD j []).map keyR = rx.map keyR) := heq
              clear HSm heq
              go_wp2_with fail
              refine HS9.out.mono ?_
              rintro e9 wy ⟨rfl, ky⟩
              have HKf : Hid (Kp (fun _ => False) we wy) := (HK2.out.1.trans HKx.out (fun _ _ e => e)).trans ky (fun _ _ e => e)
              have HNn : Hid (∀ j', j' < j + 1 → ¬ (lsx.getD j' []).map keyR = rx.map keyR) := fun j' hj' => by
                by_cases e : j' = j
                · rw [e]; exact HNe.out
                · exact HK2.out.2 j' (Nat.lt_of_le_of_ne (Nat.le_of_lt_succ hj') e)
              clear ky HS9 HKx HK2 x0
              go_wp2
              go_roundg (ln2 - (j + 1))
              case rel => exact ⟨j + 1, HJ9.out, rfl, by first | rw [hwj] | (simp; done), HKf.out, HNn.out⟩
              case measure => exact Nat.sub_lt_sub_left HJ9.out (Nat.lt_succ_self j)
          · exfalso
            obtain ⟨idx, hi9, he9⟩ := List.getElem_of_mem HR0.out.1
            have h8 := HL2.out.1
            refine HK2.out.2 idx (by omega) ?_
            rw [List.getD_eq_getElem?_getD, List.getElem?_eq_getElem hi9, ← he9]
            rfl
      · have hbr2 : ¬ (40 : Int) < (i : Int) := by omega
        go_upto_region 10 with fail
        rw [← hw2, ← hh15]
        clear hw2 hh15 d0 d1 d2 d3 d4 d5 d6 d7 hlt2
        by_cases hat : (i : Int) = A
        · have HSy : Hid (Calls _ _ _ w2 _) := HS2.out.1.sync
          go_wp2_with fail
          refine HSy.out.mono ?_
          rintro e9 w3 ⟨rfl, k3, dur3, s3⟩
          have HS : Hid (S8 w w3 N (.slice none 0 0) sh mp g bp d m gf 1 h.length dur3 h ∧ Ors w3 N (.slice none 0 0) [] ∧ Cov h h.length h.length [] ∧ (h.length ≤ i ∧ ([] : List (List Rc)).length ≤ i)) := ⟨s3.give, Ors.nil _ _, fun j h1 h2 => by omega, HS2.out.2.2.2.1, Nat.zero_le _⟩
          have HB3 : Hid (Lv w3 h15 (#[.int .i64 op, .int .i64 bl, .int .i64 ix, .int .i64 ep, .int .i64 tn, .int .i64 n2, .slice pb M cb, .int .u64 mk] : Array Value).toList ∧ N ≤ h15 ∧ h15 < w3.heap.size) := ⟨HB2.out.1.keep k3 (HS2.out.1.dm h15 HB2.out.2.1), HB2.out.2.1, Nat.lt_of_lt_of_le HB2.out.2.2.1 k3.size⟩
          have HVn : Hid (∀ b, (Value.slice none 0 0).ownBlock = some b → ¬ b = h15) := fun b e => by cases e
          clear k3 s3 HSy HS2 HB2
          have HY : Hid (h.length ≤ h.length) := Nat.le_refl _
          have HHe : Hid (Calls _ _ _ w3 _) := HS.out.1.held
          go_wp2_with fail
          refine HHe.out.mono ?_
          rintro e9 ua ⟨pr, cr, rs, ss, rfl, ka, hz, hth, hrs, hrl⟩
          obtain ⟨R, hR⟩ : ∃ R, R = rs.length := ⟨_, rfl⟩
          obtain ⟨ub, hub⟩ : ∃ z, z = ua.alloc (.cells #[.slice pr R cr] 47) := ⟨_, rfl⟩
          have kb : Kp (fun _ => False) ua ub := by rw [hub]; exact (Kp.refl _ _).alloc _
          have kub : Kp (fun _ => False) w3 ub := ka.trans kb (fun _ _ e => e)
          have HCb : Hid (ub.cell? ⟨ua.heap.size, 0, none⟩ = some (.slice pr R cr)) := by rw [hub]; exact (show Lv _ _ [.slice pr R cr] from Lv.new ua _ _).cell (j := 0) rfl
          obtain ⟨vs, o1, o2, o3⟩ := HS.out.2.1
          obtain ⟨ln, hln⟩ : ∃ n, n = ([] : List (List Rc)).length := ⟨_, rfl⟩
          have HVb := HS.out.1.vb
          have HO1 : Hid (ub.ownsRow N 47 1 (Value.slice none 0 0) ln vs ∧ ln ≤ 45 ∧ N ≤ ub.heap.size) := ⟨by rw [hln]; exact ownsRow_keep o1 kub (fun _ _ e => e), by rw [hln]; have := HS.out.2.2.2; omega, (HS.out.1.keep0 kub).n⟩
          have HAp : Hid (∀ v' w', w'.ownsRow N 47 1 v' (ln + 1) (vs ++ [.slice pr R cr]) → Kp (fun b => ((Value.slice none 0 0)).ownBlock = some b) ub w' → (v'.ownBlock = ((Value.slice none 0 0)).ownBlock ∨ v'.ownBlock = some ub.heap.size) → S8 w w' N v' sh mp g bp d m gf 1 h.length dur3 h ∧ Ors w' N v' (([] : List (List Rc)) ++ [rs]) ∧ Cov h h.length (h.length + 1) (([] : List (List Rc)) ++ [rs])) := fun v' w' o7 k7 hv7 => by
            refine ⟨(HS.out.1.keep0 kub).row k7 hv7 (fun c hc => (ownBlock_lt o7 hc).2), Ors.app o2 o3 kub hrl ((hz.keep kb (fun _ _ e => e)).mono (fun b hb => ⟨Nat.le_trans HS.out.1.n hb.1, Nat.lt_of_lt_of_le hb.2 kb.size, fun e => by have := (HVb b e).2; have := hb.1; omega⟩)) (by rw [hR, hln] at o7; exact o7) k7 hv7, HS.out.2.2.1.add hth hrs⟩
          have HBu : Hid (Lv ub h15 (#[.int .i64 op, .int .i64 bl, .int .i64 ix, .int .i64 ep, .int .i64 tn, .int .i64 n2, .slice pb M cb, .int .u64 mk] : Array Value).toList ∧ N ≤ h15 ∧ h15 < ub.heap.size) := ⟨HB3.out.1.keep kub id, HB3.out.2.1, Nat.lt_of_lt_of_le HB3.out.2.2 kub.size⟩
          rw [← hR]
          clear ka hz hth hrs hrl kb kub o1 o2 o3 HHe HVb hR hln
          go_upto_region 15 with (refine wpList_append_hrow (ua.alloc (.cells #[.slice pr R cr] 47)) rfl _ _ rfl N (Value.slice none 0 0) ln vs (.slice pr R cr) ua.heap.size rfl (by rw [← hub]; exact HO1.out.1) rfl rfl (by rw [← hub]; exact HCb.out) (by have := HO1.out.2.1; omega) (by rw [← hub]; exact HO1.out.2.2) ?_; intro v7 w7 o7 k7 hv7; rw [← hub] at k7 hv7)
          have HS7 : Hid (S8 w w7 N v7 sh mp g bp d m gf 1 h.length dur3 h ∧ Ors w7 N v7 (([] : List (List Rc)) ++ [rs]) ∧ Cov h h.length (h.length + 1) (([] : List (List Rc)) ++ [rs])) := HAp.out v7 w7 o7 k7 hv7
          have HB7 : Hid (Lv w7 h15 (#[.int .i64 op, .int .i64 bl, .int .i64 ix, .int .i64 ep, .int .i64 tn, .int .i64 n2, .slice pb M cb, .int .u64 mk] : Array Value).toList ∧ N ≤ h15) := ⟨HBu.out.1.keep k7 (fun e => HVn.out _ e rfl), HBu.out.2.1⟩
          have HLs : Hid (h.length ≤ i ∧ (([] : List (List Rc)) ++ [rs]).length ≤ i + 1) := ⟨HS.out.2.2.2.1, by rw [List.length_append]; have := HS.out.2.2.2.2; show _ + 1 ≤ _; omega⟩
          clear o7 k7 hv7 HAp HO1 HCb hub HBu HB3 HS HVn
          have c0 := HB7.out.1.cell (j := 0) rfl
          have hop := tmod3b op
          obtain ⟨op3, hop3⟩ : ∃ x, x = op.tmod 3 := ⟨_, rfl⟩
          rw [← hop3] at hop
          have hop4 : op.tmod 3 = op3 := hop3.symm
          clear hop3
          have HEnd : Hid (∀ w8 h', Kp (SW sh mp g m gf) w7 w8 → (h' = h ∨ ∃ r, h' = h ++ [r]) → S8 w w8 N v7 sh mp g bp d m gf 1 h.length dur3 h' → S8 w w8 N v7 sh mp g bp d m gf 1 h.length dur3 h' ∧ Ors w8 N v7 (([] : List (List Rc)) ++ [rs]) ∧ Cov h' h.length h'.length (([] : List (List Rc)) ++ [rs]) ∧ (h'.length ≤ i + 1 ∧ (([] : List (List Rc)) ++ [rs]).length ≤ i + 1 ∧ h.length ≤ h'.length)) := fun w8 h' k8 hh s8 => by
            have h1 := HLs.out
            have h2 := HY.out
            have h3 : h.length ≤ h'.length ∧ h'.length ≤ h.length + 1 := by
              rcases hh with e | ⟨r, e⟩
              · rw [e]; omega
              · rw [e, List.length_append]; exact ⟨by omega, Nat.le_refl _⟩
            exact ⟨s8, HS7.out.2.1.keep k8 HS7.out.1.sw, HS7.out.2.2.put hh, by omega, h1.2, by omega⟩
          by_cases hz : op3 = 0
          · have hz1 : (op3 == (0 : Int)) = true := by rw [beq_iff_eq]; exact hz
            have c1 := HB7.out.1.cell (j := 1) rfl
            have c2 := HB7.out.1.cell (j := 2) rfl
            have HC : Hid (Calls _ _ _ w7 _) := HS7.out.1.drop (by have := HLs.out.1; omega) bl ix
            clear hz
            go_wp2_with fail
            refine HC.out.mono ?_
            rintro e9 w8 ⟨⟨q, rfl⟩, k8, h', hh, s8⟩
            have HE8 : Hid _ := HEnd.out w8 h' k8 hh s8
            have HJ : Hid (i < L) := HD.out.2.2
            clear k8 hh s8 HC HEnd HS7 HB7 HLs hz1 hop hop4 c0 c1 c2 HD
            go_wp2
            go_roundg (L - (i + 1))
            case rel => exact ⟨i + 1, h.length, dur3, h', ([] : List (List Rc)) ++ [rs], v7, by have := HJ.out; omega, by omega, rfl, rfl, by first | rw [hwi] | (simp; done) | (simp; exact hat.symm), HE8.out⟩
            case measure => have := HJ.out; omega
          · have hz1 : (op3 == (0 : Int)) = false := by rw [beq_eq_false_iff_ne]; exact hz
            obtain ⟨la, hla⟩ : ∃ la, la = min M 100 := ⟨_, rfl⟩
            have hmin : min (M : Int) 100 = (la : Int) := by rw [hla]; exact min100b M
            have hsl : ∀ z, (Instr.sliceAt 34 (.slice pb M cb) none (some (.int .i64 (la : Int))) none).run Tryz.prog z = .ok (.slice pb la cb) z := fun z => slice_firstA pb M cb la (by have := HD.out.1.lc; have := HD.out.2.1; omega) z
            have kd : Kp (fun _ => False) w7 { w7 with drawn := w7.drawn + 1 } := (Kp.refl _ _).drew
            have HC : Hid (Calls _ _ _ { w7 with drawn := w7.drawn + 1 } _) := (HS7.out.1.keep0 kd).store (by have := HLs.out.1; omega) bl ix ep pb la cb (xs.take la) (((HD.out.1.rb.keep0 HS7.out.1.k).keep0 kd).fst (m := la) (by have := HD.out.2.1; omega)) (by omega)
            have HKd : Hid (Kp (fun _ => False) w7 { w7 with drawn := w7.drawn + 1 }) := kd
            have l3 := HB7.out.1.keep kd id
            go_upto_region 17 with fail
            refine wp_region_still_tail 14 (by kernel_rfl) (by kernel_rfl) ?_
            obtain ⟨w3x, hw3x⟩ : ∃ x, x = { w7 with drawn := w7.drawn + 1 } := ⟨_, rfl⟩
            rw [← hw3x] at HC HKd l3 ⊢
            have e1 := l3.cell (j := 1) rfl
            have e2 := l3.cell (j := 2) rfl
            have e3 := l3.cell (j := 3) rfl
            have e6 := l3.cell (j := 6) rfl
            clear hw3x kd l3 hz hla c0
            simp only [List.take_succ_cons, List.take_zero, List.drop_succ_cons, List.drop_zero]
            iterate 14 still_step
            refine wpStill_nil ?_
            clear e1 e2 e3 e6
            go_wp2_with fail
            refine HC.out.mono ?_
            rintro e9 w8 ⟨⟨q, rfl⟩, k8, h', hh, s8⟩
            have HE8 : Hid _ := HEnd.out w8 h' ((HKd.out.mono (fun _ _ e => e.elim)).trans k8 (fun _ _ e => e)) hh s8
            have HJ : Hid (i < L) := HD.out.2.2
            clear k8 hh s8 HC HEnd HS7 HB7 HLs hz1 hop hop4 HD HKd hmin hsl
            go_wp2
            go_roundg (L - (i + 1))
            case rel => exact ⟨i + 1, h.length, dur3, h', ([] : List (List Rc)) ++ [rs], v7, by have := HJ.out; omega, by omega, rfl, rfl, by first | rw [hwi] | (simp; done) | (simp; exact hat.symm), HE8.out⟩
            case measure => have := HJ.out; omega
        · have HS : Hid (S8 w w2 N v sh mp g bp d m gf 1 y dur h ∧ Ors w2 N v ls ∧ Cov h y h.length ls ∧ (h.length ≤ i ∧ ls.length ≤ i)) := ⟨HS2.out.1, HS2.out.2.1, HS2.out.2.2.1, HS2.out.2.2.2.1, HS2.out.2.2.2.2.1⟩
          have HY : Hid (y ≤ h.length) := HS2.out.2.2.2.2.2
          have HB3 : Hid (Lv w2 h15 (#[.int .i64 op, .int .i64 bl, .int .i64 ix, .int .i64 ep, .int .i64 tn, .int .i64 n2, .slice pb M cb, .int .u64 mk] : Array Value).toList ∧ N ≤ h15 ∧ h15 < w2.heap.size) := ⟨HB2.out.1, HB2.out.2.1, HB2.out.2.2.1⟩
          have HVn : Hid (∀ b, v.ownBlock = some b → ¬ b = h15) := fun b e e2 => HB2.out.2.2.2 (by rw [← e2]; exact e)
          clear HS2 HB2
          have HHe : Hid (Calls _ _ _ w2 _) := HS.out.1.held
          go_wp2_with fail
          refine HHe.out.mono ?_
          rintro e9 ua ⟨pr, cr, rs, ss, rfl, ka, hz, hth, hrs, hrl⟩
          obtain ⟨R, hR⟩ : ∃ R, R = rs.length := ⟨_, rfl⟩
          obtain ⟨ub, hub⟩ : ∃ z, z = ua.alloc (.cells #[.slice pr R cr] 47) := ⟨_, rfl⟩
          have kb : Kp (fun _ => False) ua ub := by rw [hub]; exact (Kp.refl _ _).alloc _
          have kub : Kp (fun _ => False) w2 ub := ka.trans kb (fun _ _ e => e)
          have HCb : Hid (ub.cell? ⟨ua.heap.size, 0, none⟩ = some (.slice pr R cr)) := by rw [hub]; exact (show Lv _ _ [.slice pr R cr] from Lv.new ua _ _).cell (j := 0) rfl
          obtain ⟨vs, o1, o2, o3⟩ := HS.out.2.1
          obtain ⟨ln, hln⟩ : ∃ n, n = ls.length := ⟨_, rfl⟩
          have HVb := HS.out.1.vb
          have HO1 : Hid (ub.ownsRow N 47 1 v ln vs ∧ ln ≤ 45 ∧ N ≤ ub.heap.size) := ⟨by rw [hln]; exact ownsRow_keep o1 kub (fun _ _ e => e), by rw [hln]; have := HS.out.2.2.2; omega, (HS.out.1.keep0 kub).n⟩
          have HAp : Hid (∀ v' w', w'.ownsRow N 47 1 v' (ln + 1) (vs ++ [.slice pr R cr]) → Kp (fun b => (v).ownBlock = some b) ub w' → (v'.ownBlock = (v).ownBlock ∨ v'.ownBlock = some ub.heap.size) → S8 w w' N v' sh mp g bp d m gf 1 y dur h ∧ Ors w' N v' (ls ++ [rs]) ∧ Cov h y (h.length + 1) (ls ++ [rs])) := fun v' w' o7 k7 hv7 => by
            refine ⟨(HS.out.1.keep0 kub).row k7 hv7 (fun c hc => (ownBlock_lt o7 hc).2), Ors.app o2 o3 kub hrl ((hz.keep kb (fun _ _ e => e)).mono (fun b hb => ⟨Nat.le_trans HS.out.1.n hb.1, Nat.lt_of_lt_of_le hb.2 kb.size, fun e => by have := (HVb b e).2; have := hb.1; omega⟩)) (by rw [hR, hln] at o7; exact o7) k7 hv7, HS.out.2.2.1.add hth hrs⟩
          have HBu : Hid (Lv ub h15 (#[.int .i64 op, .int .i64 bl, .int .i64 ix, .int .i64 ep, .int .i64 tn, .int .i64 n2, .slice pb M cb, .int .u64 mk] : Array Value).toList ∧ N ≤ h15 ∧ h15 < ub.heap.size) := ⟨HB3.out.1.keep kub id, HB3.out.2.1, Nat.lt_of_lt_of_le HB3.out.2.2 kub.size⟩
          rw [← hR]
          clear ka hz hth hrs hrl kb kub o1 o2 o3 HHe HVb hR hln
          go_upto_region 15 with (refine wpList_append_hrow (ua.alloc (.cells #[.slice pr R cr] 47)) rfl _ _ rfl N v ln vs (.slice pr R cr) ua.heap.size rfl (by rw [← hub]; exact HO1.out.1) rfl rfl (by rw [← hub]; exact HCb.out) (by have := HO1.out.2.1; omega) (by rw [← hub]; exact HO1.out.2.2) ?_; intro v7 w7 o7 k7 hv7; rw [← hub] at k7 hv7)
          have HS7 : Hid (S8 w w7 N v7 sh mp g bp d m gf 1 y dur h ∧ Ors w7 N v7 (ls ++ [rs]) ∧ Cov h y (h.length + 1) (ls ++ [rs])) := HAp.out v7 w7 o7 k7 hv7
          have HB7 : Hid (Lv w7 h15 (#[.int .i64 op, .int .i64 bl, .int .i64 ix, .int .i64 ep, .int .i64 tn, .int .i64 n2, .slice pb M cb, .int .u64 mk] : Array Value).toList ∧ N ≤ h15) := ⟨HBu.out.1.keep k7 (fun e => HVn.out _ e rfl), HBu.out.2.1⟩
          have HLs : Hid (h.length ≤ i ∧ (ls ++ [rs]).length ≤ i + 1) := ⟨HS.out.2.2.2.1, by rw [List.length_append]; have := HS.out.2.2.2.2; show _ + 1 ≤ _; omega⟩
          clear o7 k7 hv7 HAp HO1 HCb hub HBu HB3 HS HVn
          have c0 := HB7.out.1.cell (j := 0) rfl
          have hop := tmod3b op
          obtain ⟨op3, hop3⟩ : ∃ x, x = op.tmod 3 := ⟨_, rfl⟩
          rw [← hop3] at hop
          have hop4 : op.tmod 3 = op3 := hop3.symm
          clear hop3
          have HEnd : Hid (∀ w8 h', Kp (SW sh mp g m gf) w7 w8 → (h' = h ∨ ∃ r, h' = h ++ [r]) → S8 w w8 N v7 sh mp g bp d m gf 1 y dur h' → S8 w w8 N v7 sh mp g bp d m gf 1 y dur h' ∧ Ors w8 N v7 (ls ++ [rs]) ∧ Cov h' y h'.length (ls ++ [rs]) ∧ (h'.length ≤ i + 1 ∧ (ls ++ [rs]).length ≤ i + 1 ∧ y ≤ h'.length)) := fun w8 h' k8 hh s8 => by
            have h1 := HLs.out
            have h2 := HY.out
            have h3 : h.length ≤ h'.length ∧ h'.length ≤ h.length + 1 := by
              rcases hh with e | ⟨r, e⟩
              · rw [e]; omega
              · rw [e, List.length_append]; exact ⟨by omega, Nat.le_refl _⟩
            exact ⟨s8, HS7.out.2.1.keep k8 HS7.out.1.sw, HS7.out.2.2.put hh, by omega, h1.2, by omega⟩
          by_cases hz : op3 = 0
          · have hz1 : (op3 == (0 : Int)) = true := by rw [beq_iff_eq]; exact hz
            have c1 := HB7.out.1.cell (j := 1) rfl
            have c2 := HB7.out.1.cell (j := 2) rfl
            have HC : Hid (Calls _ _ _ w7 _) := HS7.out.1.drop (by have := HLs.out.1; omega) bl ix
            clear hz
            go_wp2_with fail
            refine HC.out.mono ?_
            rintro e9 w8 ⟨⟨q, rfl⟩, k8, h', hh, s8⟩
            have HE8 : Hid _ := HEnd.out w8 h' k8 hh s8
            have HJ : Hid (i < L) := HD.out.2.2
            clear k8 hh s8 HC HEnd HS7 HB7 HLs hz1 hop hop4 c0 c1 c2 HD
            go_wp2
            go_roundg (L - (i + 1))
            case rel => exact ⟨i + 1, y, dur, h', ls ++ [rs], v7, by have := HJ.out; omega, by omega, rfl, rfl, by first | rw [hwi] | (simp; done) | (simp; exact hat.symm), HE8.out⟩
            case measure => have := HJ.out; omega
          · have hz1 : (op3 == (0 : Int)) = false := by rw [beq_eq_false_iff_ne]; exact hz
            obtain ⟨la, hla⟩ : ∃ la, la = min M 100 := ⟨_, rfl⟩
            have hmin : min (M : Int) 100 = (la : Int) := by rw [hla]; exact min100b M
            have hsl : ∀ z, (Instr.sliceAt 34 (.slice pb M cb) none (some (.int .i64 (la : Int))) none).run Tryz.prog z = .ok (.slice pb la cb) z := fun z => slice_firstA pb M cb la (by have := HD.out.1.lc; have := HD.out.2.1; omega) z
            have kd : Kp (fun _ => False) w7 { w7 with drawn := w7.drawn + 1 } := (Kp.refl _ _).drew
            have HC : Hid (Calls _ _ _ { w7 with drawn := w7.drawn + 1 } _) := (HS7.out.1.keep0 kd).store (by have := HLs.out.1; omega) bl ix ep pb la cb (xs.take la) (((HD.out.1.rb.keep0 HS7.out.1.k).keep0 kd).fst (m := la) (by have := HD.out.2.1; omega)) (by omega)
            have HKd : Hid (Kp (fun _ => False) w7 { w7 with drawn := w7.drawn + 1 }) := kd
            have l3 := HB7.out.1.keep kd id
            go_upto_region 17 with fail
            refine wp_region_still_tail 14 (by kernel_rfl) (by kernel_rfl) ?_
            obtain ⟨w3x, hw3x⟩ : ∃ x, x = { w7 with drawn := w7.drawn + 1 } := ⟨_, rfl⟩
            rw [← hw3x] at HC HKd l3 ⊢
            have e1 := l3.cell (j := 1) rfl
            have e2 := l3.cell (j := 2) rfl
            have e3 := l3.cell (j := 3) rfl
            have e6 := l3.cell (j := 6) rfl
            clear hw3x kd l3 hz hla c0
            simp only [List.take_succ_cons, List.take_zero, List.drop_succ_cons, List.drop_zero]
            iterate 14 still_step
            refine wpStill_nil ?_
            clear e1 e2 e3 e6
            go_wp2_with fail
            refine HC.out.mono ?_
            rintro e9 w8 ⟨⟨q, rfl⟩, k8, h', hh, s8⟩
            have HE8 : Hid _ := HEnd.out w8 h' ((HKd.out.mono (fun _ _ e => e.elim)).trans k8 (fun _ _ e => e)) hh s8
            have HJ : Hid (i < L) := HD.out.2.2
            clear k8 hh s8 HC HEnd HS7 HB7 HLs hz1 hop hop4 HD HKd hmin hsl
            go_wp2
            go_roundg (L - (i + 1))
            case rel => exact ⟨i + 1, y, dur, h', ls ++ [rs], v7, by have := HJ.out; omega, by omega, rfl, rfl, by first | rw [hwi] | (simp; done) | (simp; exact hat.symm), HE8.out⟩
            case measure => have := HJ.out; omega
    · have hiL : i = L := by omega
      subst hiL
      have hlt2 : ¬ ((i : Int) < (i : Int)) := by omega
      have HS2 := HK
      clear HK
      have HS : Hid (S8 w wr N v sh mp g bp d m gf 1 y dur h ∧ Ors wr N v ls ∧ Cov h y h.length ls ∧ (h.length ≤ i ∧ ls.length ≤ i)) := ⟨HS2.out.1, HS2.out.2.1, HS2.out.2.2.1, HS2.out.2.2.2.1, HS2.out.2.2.2.2.1⟩
      clear HS2
      have HHe : Hid (Calls _ _ _ wr _) := HS.out.1.held
      go_wp2_with fail
      refine HHe.out.mono ?_
      rintro e9 ua ⟨pr, cr, rs, ss, rfl, ka, hz, hth, hrs, hrl⟩
      obtain ⟨R, hR⟩ : ∃ R, R = rs.length := ⟨_, rfl⟩
      obtain ⟨ub, hub⟩ : ∃ z, z = ua.alloc (.cells #[.slice pr R cr] 47) := ⟨_, rfl⟩
      have kb : Kp (fun _ => False) ua ub := by rw [hub]; exact (Kp.refl _ _).alloc _
      have kub : Kp (fun _ => False) wr ub := ka.trans kb (fun _ _ e => e)
      have HCb : Hid (ub.cell? ⟨ua.heap.size, 0, none⟩ = some (.slice pr R cr)) := by rw [hub]; exact (show Lv _ _ [.slice pr R cr] from Lv.new ua _ _).cell (j := 0) rfl
      obtain ⟨vs, o1, o2, o3⟩ := HS.out.2.1
      obtain ⟨ln, hln⟩ : ∃ n, n = ls.length := ⟨_, rfl⟩
      have HVb := HS.out.1.vb
      have HO1 : Hid (ub.ownsRow N 47 1 v ln vs ∧ ln ≤ 45 ∧ N ≤ ub.heap.size) := ⟨by rw [hln]; exact ownsRow_keep o1 kub (fun _ _ e => e), by rw [hln]; have := HS.out.2.2.2; omega, (HS.out.1.keep0 kub).n⟩
      have HAp : Hid (∀ v' w', w'.ownsRow N 47 1 v' (ln + 1) (vs ++ [.slice pr R cr]) → Kp (fun b => (v).ownBlock = some b) ub w' → (v'.ownBlock = (v).ownBlock ∨ v'.ownBlock = some ub.heap.size) → S8 w w' N v' sh mp g bp d m gf 1 y dur h ∧ Ors w' N v' (ls ++ [rs]) ∧ Cov h y (h.length + 1) (ls ++ [rs])) := fun v' w' o7 k7 hv7 => by
        refine ⟨(HS.out.1.keep0 kub).row k7 hv7 (fun c hc => (ownBlock_lt o7 hc).2), Ors.app o2 o3 kub hrl ((hz.keep kb (fun _ _ e => e)).mono (fun b hb => ⟨Nat.le_trans HS.out.1.n hb.1, Nat.lt_of_lt_of_le hb.2 kb.size, fun e => by have := (HVb b e).2; have := hb.1; omega⟩)) (by rw [hR, hln] at o7; exact o7) k7 hv7, HS.out.2.2.1.add hth hrs⟩
      rw [← hR]
      clear ka hz hth hrs hrl kb kub o1 o2 o3 HHe HVb hR hln
      go_upto_region 20 with (refine wpList_append_hrow (ua.alloc (.cells #[.slice pr R cr] 47)) rfl _ _ rfl N v ln vs (.slice pr R cr) ua.heap.size rfl (by rw [← hub]; exact HO1.out.1) rfl rfl (by rw [← hub]; exact HCb.out) (by have := HO1.out.2.1; omega) (by rw [← hub]; exact HO1.out.2.2) ?_; intro v7 w7 o7 k7 hv7; rw [← hub] at k7 hv7)
      have HS7 : Hid (S8 w w7 N v7 sh mp g bp d m gf 1 y dur h ∧ Ors w7 N v7 (ls ++ [rs]) ∧ Cov h y (h.length + 1) (ls ++ [rs])) := HAp.out v7 w7 o7 k7 hv7
      have HLs : Hid ((ls ++ [rs]).length ≤ 45 ∧ h.length ≤ 45) := ⟨by rw [List.length_append]; have := HS.out.2.2.2; show _ + 1 ≤ _; omega, by have := HS.out.2.2.2; omega⟩
      clear o7 k7 hv7 HAp HO1 HCb hub HS
      obtain ⟨q, lt, T, hl⟩ := HS7.out.1.s.lg
      have HLg : Hid (Lg w7 g bp d m gf 298 q 1 1 0 1 lt y (h.map wrS) dur T) := hl
      have HDi : Hid (Calls _ _ _ w7 _) := dirty_ok hl.pt
      clear hl
      go_wp2_with fail
      refine HDi.out.mono ?_
      rintro e9 wa ⟨v2, rfl, ka, is2⟩
      obtain ⟨p2, cc2, rfl, rz2, hp2⟩ := is2.rz
      obtain ⟨zs, hzs⟩ : ∃ zs, zs = dks T (2 + 298) := ⟨_, rfl⟩
      rw [← hzs] at rz2 is2
      obtain ⟨Z, hZ⟩ : ∃ Z, Z = zs.length := ⟨_, rfl⟩
      have HZ : Hid (zs = dks T (2 + 298) ∧ Z = zs.length ∧ Z ≤ 300) := ⟨hzs, hZ, by rw [hZ, hzs]; exact dks_len T (2 + 298)⟩
      rw [← hzs, ← hZ]
      have HKe : Hid (Calls _ _ _ wa _) := kept8_ok p2 Z cc2 zs mask wa hZ rz2 (by have := HZ.out; omega)
      have HKa : Hid (Kp (fun _ => False) w7 wa) := ka
      clear ka is2 rz2 hp2 hzs hZ HDi
      go_wp2_with fail
      refine HKe.out.mono ?_
      rintro e9 wb ⟨v3, ks, rfl, kb, is3, hin, hkl⟩
      obtain ⟨p3, cc3, rfl, rz3, hp3⟩ := is3.rz
      have HLb : Lg wb g bp d m gf 298 q 1 1 0 1 lt y (h.map wrS) dur T := (HLg.out.keep0 HKa.out).keep0 kb
      have HCr : Hid (Calls _ _ _ wb _) := lg_crash HLb p3 cc3 ks torn nn (fun w' k' => rz3.keep k' (fun a ha e => by have h1 := (hp3 a ha).1; have h2 := (HLg.out.keep0 HKa.out).blk; have e' : a.block = d := e; omega)) (fun z hz => by
        have := hin z hz
        rw [HZ.out.1] at this
        obtain ⟨j, hj, _, rfl⟩ := mem_dks.1 this
        exact wf_nat j (by omega)) HWt.out (by have := HZ.out; omega)
      have HKb : Hid (Kp (fun _ => False) w7 wb) := HKa.out.trans kb (fun _ _ e => e)
      obtain ⟨Z3, hZ3⟩ : ∃ Z, Z = ks.length := ⟨_, rfl⟩
      rw [← hZ3] at HCr
      rw [← hZ3]
      clear kb is3 hin hkl rz3 hp3 HLb HKe hZ3
      go_wp2_with fail
      refine HCr.out.mono ?_
      rintro e9 wc ⟨rfl, kc, lc, _⟩
      have HKc : Hid (Kp (fun x => x = d ∨ x = m) w7 wc) := (HKb.out.mono (fun _ _ e => e.elim)).trans kc (fun _ _ e => e)
      have HKcw : Hid (Kp (fun _ => False) w wc) := HS7.out.1.k.trans HKc.out (fun b hb e9 => by have e' : b = d ∨ b = m := e9; have := HS7.out.1.z; omega)
      obtain ⟨k9, hk1, hk2, hop⟩ := sopen_any lc (fun r hr => (HS7.out.1.sm r hr).1) (by have := HLs.out.2; omega) (by decide) (by decide) (fun j hj => HKcw.out.cellv (HT.out j hj) id)
      have HOp : Hid (Calls _ _ _ wc _) := hop
      obtain ⟨r0, hr0m, hr0⟩ := HS7.out.2.2 k9 hk1 (by omega)
      have HR0 : Hid (r0 ∈ ls ++ [rs] ∧ At8 h k9 r0) := ⟨hr0m, hr0⟩
      clear kc lc hk1 hk2 hop HCr hr0m hr0 HLg HZ HKa HKb
      go_wp2_with fail
      refine HOp.out.mono ?_
      rintro e9 we ⟨sh2, mp2, g2, gf2, dur2, N2, rfl, ke, _, hN2, s2⟩
      have HKe : Hid (Kp (fun _ => False) w we) := HKcw.out.trans ke (fun b hb e9 => by have e' : b = d ∨ b = m := e9; have := HS7.out.1.z; omega)
      have HSk : Hid (Sk we (fun x => N2 ≤ x) sh2 mp2 g2 (h.take k9)) := s2.sk
      have HLf : Hid (Calls _ _ _ we _) := slife_ok s2
      have hOr : Ors we N v7 (ls ++ [rs]) := (HS7.out.2.1.keep HKc.out HS7.out.1.dm).keep ke HS7.out.1.dm
      obtain ⟨pv, cv, hv7, hcells⟩ := hOr.form
      obtain ⟨ln2, hln2⟩ : ∃ n, n = (ls ++ [rs]).length := ⟨_, rfl⟩
      rw [← hln2] at hv7 hcells
      have HL2 : Hid (ln2 = (ls ++ [rs]).length ∧ ln2 ≤ 45) := ⟨hln2, by rw [hln2]; exact HLs.out.1⟩
      have HCe : Hid (∀ i, i < ln2 → ∃ g o q d, pv = some ⟨g, o, none⟩ ∧ we.cell? ⟨g, o + i, none⟩ = some (.slice q ((ls ++ [rs]).getD i []).length d) ∧ ((ls ++ [rs]).getD i []).length ≤ 1000 ∧ Hd we q ((ls ++ [rs]).getD i [])) := hcells
      subst hv7
      clear ke hN2 s2 HOp HKc HKcw HS7 HLs hOr hcells hln2
      go_wp2_with fail
      refine HLf.out.mono ?_
      rintro e9 w9 ⟨rfl, hw9⟩
      have hw8 := hw9.symm
      subst hw8
      clear hw9 HLf
      go_wp2_with fail
      obtain ⟨lsx, hlsx⟩ : ∃ l, l = ls ++ [rs] := ⟨_, rfl⟩
      rw [← hlsx] at HL2 HCe HR0
      clear hlsx
      go_loopg [109] ln2 (fun gk iv wr2 => ∃ j : Nat, j ≤ ln2 ∧ gk = ln2 - j ∧ iv = .int .i64 (j : Int) ∧ Hid (Kp (fun _ => False) we wr2 ∧ ∀ j', j' < j → ¬ (lsx.getD j' []).map keyR = r0.map keyR))
      case atStart => exact ⟨0, Nat.zero_le _, rfl, rfl, Kp.refl _ _, fun j' hj => absurd hj (Nat.not_lt_zero _)⟩
      case round =>
        obtain ⟨j, hj, rfl, rfl, HK2⟩ := hrel
        by_cases hlt9 : j < ln2
        · have hlt8 : (j : Int) < (ln2 : Int) := by omega
          obtain ⟨gO, oO, q, dO, hpv, hcq, hq1, hq2⟩ := HCe.out j hlt9
          subst hpv
          have x0 := HK2.out.1.cellv hcq id
          have HHd : Hid (Hd wr q (lsx.getD j []) ∧ (lsx.getD j []).length ≤ 1000) := ⟨hq2.keep0 HK2.out.1, hq1⟩
          have HHe : Hid (Calls _ _ _ wr _) := held_hd (HSk.out.keep HK2.out.1 id id (fun _ _ => id))
          obtain ⟨M1, hM1⟩ : ∃ M, M = (lsx.getD j []).length := ⟨_, rfl⟩
          rw [← hM1] at x0
          have HM1 : Hid (M1 = (lsx.getD j []).length) := hM1
          have hwj : wrap64 ((j : Int) + 1) = ((j + 1 : Nat) : Int) := by have := HL2.out; unfold wrap64; omega
          have HJ9 : Hid (j < ln2) := hlt9
          clear hcq hq1 hq2 hM1 hlt9
          go_wp2_with fail
          refine HHe.out.mono ?_
          rintro e9 wx ⟨px, cx, rx, ssx, rfl, kx, hzx, htx, hrx, hlx⟩
          obtain rfl : rx = r0 := hrx.trans (HR0.out.2.same htx).symm
          have HSm := sameHeld_hd (c1 := dO) (c2 := cx) (HHd.out.1.keep0 kx) hzx.hd ⟨Nat.le_trans HHd.out.2 (by decide), Nat.le_trans hlx (by decide)⟩
          rw [← HM1.out] at HSm
          have HKx : Hid (Kp (fun _ => False) wr wx) := kx
          obtain ⟨M2, hM2⟩ : ∃ M, M = rx.length := ⟨_, rfl⟩
          rw [← hM2] at HSm
          rw [← hM2]
          clear kx hzx htx hrx hlx HHe hM2 HHd HM1
          by_cases heq : (lsx.getD j []).map keyR = rx.map keyR
          · rw [decide_eq_true heq] at HSm
            have HS9 : Hid (Calls _ _ _ wx _) := HSm
            clear HSm heq
            go_wp2_with fail
            refine HS9.out.mono ?_
            rintro e9 wy ⟨rfl, ky⟩
            have HKf : Hid (Kp (fun _ => False) w wy) := ((HKe.out.trans HK2.out.1 (fun _ _ e => e)).trans HKx.out (fun _ _ e => e)).trans ky (fun _ _ e => e)
            clear ky HS9
            go_wp2
            go_ret
            exact ⟨rfl, HKf.out⟩
          · rw [decide_eq_false heq] at HSm
            have HS9 : Hid (Calls _ _ _ wx _) := HSm
            have HNe : Hid (¬ (lsx.getD j []).map keyR = rx.map keyR) := heq
            clear HSm heq
            go_wp2_with fail
            refine HS9.out.mono ?_
            rintro e9 wy ⟨rfl, ky⟩
            have HKf : Hid (Kp (fun _ => False) we wy) := (HK2.out.1.trans HKx.out (fun _ _ e => e)).trans ky (fun _ _ e => e)
            have HNn : Hid (∀ j', j' < j + 1 → ¬ (lsx.getD j' []).map keyR = rx.map keyR) := fun j' hj' => by
              by_cases e : j' = j
              · rw [e]; exact HNe.out
              · exact HK2.out.2 j' (Nat.lt_of_le_of_ne (Nat.le_of_lt_succ hj') e)
            clear ky HS9 HKx HK2 x0
            go_wp2
            go_roundg (ln2 - (j + 1))
            case rel => exact ⟨j + 1, HJ9.out, rfl, by first | rw [hwj] | (simp; done), HKf.out, HNn.out⟩
            case measure => exact Nat.sub_lt_sub_left HJ9.out (Nat.lt_succ_self j)
        · exfalso
          obtain ⟨idx, hi9, he9⟩ := List.getElem_of_mem HR0.out.1
          have h8 := HL2.out.1
          refine HK2.out.2 idx (by omega) ?_
          rw [List.getD_eq_getElem?_getD, List.getElem?_eq_getElem hi9, ← he9]
          rfl
end Go.Proofs.YtmooddbhcccicaaGreatDoor
