/- A shard that waits is laid behind the others. -/
import Derived.Test.YtnpaoppfhffoiaaJd
import Derived.Test.YtnpaoppfhffoiaaJe1
import Derived.StillTailTactics
namespace Go.Proofs.Ytnpaoppfhffoiaa
set_option linter.unusedVariables false
open Go.RowKit Go.Deep Go.Maps

theorem tasW (v : Value) (w : World) : (Instr.typeAssert (.iface 65 v) 20 65 false).run Try.prog w = .ok v w := by kernel_rfl
set_option maxRecDepth 100000 in
set_option maxHeartbeats 1600000 in
theorem wpush_ok {w : World} {h m : Nat} {v : Value} {l : List Wt} (x : Hw w h m v l) (e : Wt) (hl : l.length ≤ 1000) (hwf : wf2 e.b e.i) (hne : ∀ k, k < l.length → ¬ ((l.getD k wt0).b = e.b ∧ (l.getD k wt0).i = e.i)) :
    Calls Try.prog 92 #[.pointer (some ⟨h, 0, none⟩), .iface 65 (.agg #[.int .i64 e.b, .int .i64 e.i, .int .i64 e.t])] w fun r w' => r = .returned (.tuple #[]) ∧ Kp (Hs h m v) w w' ∧ ∃ v', Hw w' h m v' (l ++ [e]) ∧ (v'.ownBlock = v.ownBlock ∨ ∃ g, v'.ownBlock = some g ∧ w.heap.size ≤ g) := by
  obtain ⟨eb, ei, et⟩ := e
  dsimp only at hwf hne ⊢
  have hta := tasW
  have hlt := x.hlt
  have hmt := x.mlt
  have HX : Hid (Hw w h m v l) := x
  have HB : Hid (h < w.heap.size ∧ m < w.heap.size ∧ ∀ g, v.ownBlock = some g → g < w.heap.size) := ⟨hlt, hmt, fun g e => (ownBlock_lt x.o e).2⟩
  clear x
  go_enter Try.func92, Try.ntmps92
  go_wp2
  have k1 : Kp (fun _ => False) w (w.alloc (.cells #[.int .i64 eb, .int .i64 ei, .int .i64 et] 65)) := (Kp.refl _ _).alloc _
  have hr1 : Lv (w.alloc (.cells #[.int .i64 eb, .int .i64 ei, .int .i64 et] 65)) w.heap.size [.int .i64 eb, .int .i64 ei, .int .i64 et] := Lv.new w _ _
  obtain ⟨w1, hw1⟩ : ∃ x, x = w.alloc (.cells #[.int .i64 eb, .int .i64 ei, .int .i64 et] 65) := ⟨_, rfl⟩
  obtain ⟨r, hr⟩ : ∃ q, q = w.heap.size := ⟨_, rfl⟩
  rw [← hw1] at k1 hr1 ⊢
  rw [← hr] at hr1 ⊢
  have HHR : Hid (r = w.heap.size) := hr
  clear hw1 hr
  have kd : Kp (fun _ => False) w { w1 with drawn := w1.drawn + 1 } := k1.drew
  have hrd : Lv { w1 with drawn := w1.drawn + 1 } r [.int .i64 eb, .int .i64 ei, .int .i64 et] := hr1.keep ((Kp.refl (fun _ => False) w1).drew) (fun e => e)
  refine wp_region_still_tail 11 (by kernel_rfl) (by kernel_rfl) ?_
  obtain ⟨w2, hw2⟩ : ∃ x, x = { w1 with drawn := w1.drawn + 1 } := ⟨_, rfl⟩
  rw [← hw2] at kd hrd ⊢
  clear hw2 k1 hr1
  have x2 := HX.out.keep0 kd
  have HX2 : Hid (Hw w2 h m v l) := x2
  have HRD : Hid (Lv w2 r [.int .i64 eb, .int .i64 ei, .int .i64 et]) := hrd
  have KD : Hid (Kp (fun _ => False) w w2) := kd
  have c0 := x2.c0
  have c1 := x2.c1
  have r0 := hrd.cell (j := 0) rfl
  have r1 := hrd.cell (j := 1) rfl
  have r2 := hrd.cell (j := 2) rfl
  have hln : (Builtin.len_ #[59] 3 #[v]).run Try.prog w2 = .ok (.int .i64 (l.length : Int)) w2 := by
    rcases x2.form with ⟨e1, e2⟩ | ⟨g, cap, e1⟩
    · rw [e1, e2]; simp [Builtin.len_, run_underlying uWs]; rfl
    · rw [e1]; simp [Builtin.len_, run_underlying uWs]; rfl
  obtain ⟨n, hn⟩ : ∃ n, n = l.length := ⟨_, rfl⟩
  rw [← hn] at hln hl
  have HN : Hid (n = l.length ∧ n ≤ 1000) := ⟨hn, hl⟩
  obtain ⟨T, hT1, hT2⟩ := x2.mp
  have HT : Hid (Px w2 m n T ∧ Pos l T) := ⟨by rw [hn]; exact hT1, hT2⟩
  have hnone : T eb ei = none := hT2.2 eb ei hne
  have HNO : Hid (T eb ei = none) := hnone
  have HNE : Hid (∀ k, k < l.length → ¬ ((l.getD k wt0).b = eb ∧ (l.getD k wt0).i = ei)) := hne
  have HW : Hid (wf2 eb ei) := hwf
  clear x2 hrd kd hT1 hT2 hnone hne hwf hn hl hlt hmt HX
  simp only [List.take_succ_cons, List.take_zero, List.drop_succ_cons, List.drop_zero]
  iterate 11 still_step
  refine wpStill_nil ?_
  clear c0 c1 r0 r1 r2 hln hta
  refine wpList_put_px rfl _ _ _ rfl Try.underlying58 m n T HT.out.1 rfl (by have := HN.out; omega) HW.out rfl (.int .i64 (n : Int)) rfl ?_
  intro w3 hp3 k3
  rw [HNO.out] at hp3
  have hp3' : Px w3 m (n + 1) (upd2 T eb ei (.int .i64 (n : Int))) := hp3
  have HP3 : Hid (Px w3 m (n + 1) (upd2 T eb ei (.int .i64 (n : Int)))) := hp3'
  have K3 : Hid (Kp (fun b => b = m) w2 w3) := k3
  clear hp3 hp3' k3
  go_wp2_with fail
  have x2 := HX2.out
  have hrr := HHR.out
  have hb := HB.out
  have hmr : m ≠ r ∧ h ≠ r := ⟨by omega, by omega⟩
  have hvr : ∀ g, v.ownBlock = some g → g ≠ h ∧ g ≠ r := fun g e => ⟨(x2.ne g e).1, by have := hb.2.2 g e; omega⟩
  refine pu_region ⟨by kernel_rfl, by kernel_rfl, by kernel_rfl, by kernel_rfl, by kernel_rfl, by kernel_rfl, by kernel_rfl, by kernel_rfl, by kernel_rfl, by kernel_rfl, by kernel_rfl, by kernel_rfl, by kernel_rfl, by kernel_rfl, by kernel_rfl, by kernel_rfl⟩ h m r n v (wflat l) eb ei et (fun d _ _ _ _ h => by cases d <;> exact h) (by rfl) (by rfl) (by rfl) HN.out.2 (x2.lv.keep K3.out x2.hm) (HRD.out.keep K3.out (fun e => hmr.1 e.symm)) (by have := x2.o; rw [← HN.out.1] at this; exact ownsRow_keep this K3.out (fun g e e2 => (x2.ne g e).2 e2)) (fun e => hmr.2 e.symm) hvr ?_
  intro a' z g c hd kz Lz oz hg
  have hP : Pos (l ++ [⟨eb, ei, et⟩]) (upd2 T eb ei (.int .i64 (n : Int))) := by
    have hnl := HN.out.1
    refine ⟨fun k hk => ?_, fun a b hab => ?_⟩
    · rw [List.length_append] at hk
      unfold upd2
      by_cases e : k < l.length
      · rw [List.getD_eq_getElem?_getD, List.getElem?_append_left e, ← List.getD_eq_getElem?_getD, if_neg (HNE.out k e)]
        exact HT.out.2.1 k e
      · have e2 : k = l.length := by simp at hk; omega
        rw [List.getD_eq_getElem?_getD, List.getElem?_append_right (by omega), e2, Nat.sub_self]
        simp only [List.getElem?_cons_zero, Option.getD_some, and_self, if_true]
        rw [hnl]
    · unfold upd2
      have h1 := hab l.length (by simp)
      rw [List.getD_eq_getElem?_getD, List.getElem?_append_right (by omega), Nat.sub_self] at h1
      rw [if_neg (fun e => h1 ⟨e.1.symm, e.2.symm⟩)]
      refine HT.out.2.2 a b (fun k hk e => hab k (by rw [List.length_append]; omega) ?_)
      rw [List.getD_eq_getElem?_getD, List.getElem?_append_left hk, ← List.getD_eq_getElem?_getD]
      exact e
  have hO : Onc (l ++ [⟨eb, ei, et⟩]) := fun j k hj hk h1 h2 => by
    have hne := HNE.out
    rw [List.length_append] at hj hk
    simp only [List.length_cons, List.length_nil] at hj hk
    have gl : ∀ q, q < l.length → (l ++ [(⟨eb, ei, et⟩ : Wt)]).getD q wt0 = l.getD q wt0 := fun q hq => by rw [List.getD_eq_getElem?_getD, List.getElem?_append_left hq, ← List.getD_eq_getElem?_getD]
    have gr : (l ++ [(⟨eb, ei, et⟩ : Wt)]).getD l.length wt0 = ⟨eb, ei, et⟩ := by rw [List.getD_eq_getElem?_getD, List.getElem?_append_right (by omega), Nat.sub_self]; rfl
    by_cases ej : j < l.length
    · by_cases ek : k < l.length
      · rw [gl j ej, gl k ek] at h1 h2
        exact HX2.out.nd j k ej ek h1 h2
      · obtain rfl : k = l.length := by omega
        rw [gl j ej, gr] at h1 h2
        exact (hne j ej ⟨h1, h2⟩).elim
    · obtain rfl : j = l.length := by omega
      by_cases ek : k < l.length
      · rw [gl k ek, gr] at h1 h2
        exact (hne k ek ⟨h1.symm, h2.symm⟩).elim
      · omega
  have hw : ∀ k, k < (l ++ [(⟨eb, ei, et⟩ : Wt)]).length → wf2 ((l ++ [(⟨eb, ei, et⟩ : Wt)]).getD k wt0).b ((l ++ [(⟨eb, ei, et⟩ : Wt)]).getD k wt0).i := fun k hk => by
    by_cases e : k < l.length
    · rw [List.getD_eq_getElem?_getD, List.getElem?_append_left e, ← List.getD_eq_getElem?_getD]
      exact HX2.out.wf k e
    · rw [List.length_append] at hk
      have e2 : k = l.length := by simp at hk; omega
      rw [List.getD_eq_getElem?_getD, List.getElem?_append_right (by omega), e2, Nat.sub_self]
      exact HW.out
  have kk : Kp (Hs h m v) w z := ((KD.out.mono (S' := Hs h m v) (fun _ _ e => e.elim)).trans K3.out (fun b _ e => Or.inr (Or.inl e))).trans kz (fun b _ e => by
    rcases e with e | e
    · exact Or.inl e
    · exact Or.inr (Or.inr e))
  have hsz := KD.out.size
  have hgg : v.ownBlock = some g ∨ w.heap.size ≤ g := by
    rcases hg with e | e
    · exact Or.inl e
    · have := K3.out.size
      exact Or.inr (by omega)
  have hgne : g ≠ h ∧ g ≠ m := by
    rcases hgg with e | e
    · exact x2.ne g e
    · omega
  refine bodyPost_end (results_none rfl _ _ _) hd ⟨rfl, kk, .slice (some ⟨g, 0, none⟩) (n + 1) c, ⟨Lz, ?_, ⟨_, ?_, hP⟩, hO, hw, x2.hm, fun g' e => ?_⟩, ?_⟩
  · rw [List.length_append, wflat_append, ← HN.out.1]
    exact oz
  · rw [List.length_append, ← HN.out.1]
    exact HP3.out.keep kz (fun e => by
      rcases e with e | e
      · exact x2.hm e.symm
      · exact (x2.ne m e).2 rfl)
  · have e' : some g = some g' := e
    injection e' with e'
    rw [← e']
    exact hgne
  · rcases hgg with e | e
    · exact Or.inl e.symm
    · exact Or.inr ⟨g, rfl, e⟩
end Go.Proofs.Ytnpaoppfhffoiaa
