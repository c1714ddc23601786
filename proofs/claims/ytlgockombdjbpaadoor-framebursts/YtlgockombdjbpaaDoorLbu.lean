/- The walk of the law FrameBursts: a frame of which up to four neighbours of what it holds were turned tells another sum. -/
import Derived.Test.YtlgockombdjbpaaDoorFz
import Derived.Test.YtlgockombdjbpaaDoorLsh
import Derived.RegionTactic
import Derived.BigRegion
import Derived.Deep.AppendLies
import Derived.OpenShut
namespace Go.Proofs.YtlgockombdjbpaaDoor
open Go.RowKit Go.Deep Go.ChangeShapes Go.WideShapes

theorem rb_lit4 (w : World) : Rb (w.alloc (.cells #[.int .u8 1, .int .u8 2, .int .u8 3, .int .u8 4] 5)) (some ⟨w.heap.size, 0, none⟩) 4 [1, 2, 3, 4] := by
  have := rb_new w [1, 2, 3, 4] (fun y hy => by simp only [List.mem_cons, List.not_mem_nil, or_false] at hy; omega)
  simpa [vl] using this

theorem vl_set (xs : List Nat) (j x : Nat) : vl (xs.set j x) = (vl xs).set j (.int .u8 ((x : Nat) : Int)) := by
  unfold vl; rw [List.map_set]
theorem turn_byte (x B k : Nat) (hx : x < 256) : bits .xor .u8 (x : Int) ((B : Int) / 2 ^ k % 256) = ((x ^^^ (B / 2 ^ k % 256) : Nat) : Int) := by
  have e : (B : Int) / 2 ^ k % 256 = ((B / 2 ^ k % 256 : Nat) : Int) := by
    rw [Int.natCast_emod, Int.natCast_ediv, Int.natCast_pow]; rfl
  rw [e]
  exact u8_xor_nat x _ hx (Nat.mod_lt _ (by omega))
theorem ow_drew {w : World} {base : Nat} {v : Value} {xs : List Nat} (h : Ow w base v xs) : Ow w.drew base v xs := h

set_option maxRecDepth 100000 in
set_option maxHeartbeats 3200000 in
theorem frameBursts_walkA (p : Option Addr) (n c : Nat) (xs : List Nat) (a by_ : Int) (w : World) (h : Rb w p n xs) (hc : n ≤ c) (_hn : Hid (n ≤ 140737488355328)) (hw : 0 ≤ by_ ∧ by_ < 4294967296) (ht : Turns w) (hle : (n : Int) ≤ 2000) :
    Calls Tryd.prog 5 #[.slice p n c, .int .i64 a, .int .u32 by_] w fun e w' => e = .returned (.bool true) ∧ Kp (fun _ => False) w w' := by
  have HX : Hid ((xs.take n).length = n) := by show _ = _; rw [List.length_take, h.len]; omega
  have HB : Hid (∀ x ∈ xs.take n ++ [1, 2, 3, 4], x < 256) := fun x hx => by
    rcases List.mem_append.1 hx with hx | hx
    · exact h.byte x (List.mem_of_mem_take hx)
    · simp only [List.mem_cons, List.not_mem_nil, or_false] at hx; omega
  have HR0 : Hid (Rb w p n (xs.take n)) := h.first (by omega)
  clear h
  go_enter Tryd.func5, Tryd.ntmps5
  go_wp2_with fail
  refine (clone_any p n c (xs.take n) w HR0.out (by show _ ≤ _; omega)).mono ?_
  rintro e w1 ⟨v1, rfl, k1, o1⟩
  have HO1 : Hid (Ow (w1.alloc (.cells #[.int .u8 1, .int .u8 2, .int .u8 3, .int .u8 4] 5)) w.heap.size v1 (xs.take n)) := World.ownsRow.alloc o1 _
  have k1' := k1.alloc (.cells #[.int .u8 1, .int .u8 2, .int .u8 3, .int .u8 4] 5)
  clear o1
  go_wp2_with (at_builtin; refine wpList_append_bytes _ rfl _ _ rfl w.heap.size v1 (xs.take n) rfl HO1.out (some ⟨w1.heap.size, 0, none⟩) 4 4 [1, 2, 3, 4] rfl (rb_lit4 w1) (by have := HX.out; omega) k1'.size ?_
               intro v2 w2 o2 hk2 hb2)
  have k2 := Kp.app k1' HO1.out hk2
  obtain ⟨ys, hys⟩ : ∃ ys, ys = xs.take n ++ [1, 2, 3, 4] := ⟨_, rfl⟩
  rw [← hys] at o2 HB
  have HY : Hid (ys.length = n + 4) := by show _ = _; rw [hys, List.length_append, HX.out]; rfl
  clear hys HX HO1 hk2 hb2
  obtain ⟨p2, c2, rfl, hc2, r2, _⟩ := o2.rb HB.out
  obtain ⟨N, hN⟩ : ∃ N, N = ys.length := ⟨_, rfl⟩
  rw [← hN] at hc2 r2 ⊢
  have HN : Hid (N = ys.length) := hN
  have hNb : (N : Int) ≤ 2004 := by have := HY.out; omega
  have hN4 : (4 : Int) ≤ (N : Int) := by have := HY.out; omega
  clear o2 hN
  refine (wrap_yes p2 _ c2 ys w2 r2 (by omega) (by omega) (ht.keep0 k2)).mono ?_
  rintro e w3 ⟨v3, rfl, k3, o3⟩
  have k03 := k2.trans k3 (fun _ _ e => e)
  have HFL : Hid ((frm ys).length = N + 7) := by show _ = _; rw [frm_length, HN.out]
  obtain ⟨g, c3, rfl, hg, hglt⟩ := World.ownsRow.form o3 (by rw [HFL.out]; omega)
  have HFB : Hid (∀ x ∈ frm ys, x < 256) := frm_byte HB.out (by have := HN.out; omega)
  have HO3 : Hid (Ow w3 w2.heap.size (.slice (some ⟨g, 0, none⟩) (frm ys).length c3) (frm ys)) := o3
  rw [HFL.out]
  clear o3 r2
  obtain ⟨F3, hF3⟩ : ∃ F : Nat, (F : Int) = (N : Int) - 3 := ⟨N - 3, by omega⟩
  have hFp : (0 : Int) < (F3 : Int) := by omega
  have hFb : (F3 : Int) ≤ 3000 := by omega
  obtain ⟨m, hm⟩ : ∃ m : Nat, (m : Int) = (a % 18446744073709551616) % (F3 : Int) := ⟨((a % 18446744073709551616) % (F3 : Int)).toNat, by
    rw [Int.toNat_of_nonneg (Int.emod_nonneg _ (by omega))]⟩
  have hm2 : wrap64 ((IntKind.u64.wrap a).tmod (F3 : Int)) = (m : Int) := rem_form a F3 m hFp hFb hm
  have hmF : (m : Int) < (N : Int) - 3 := by have := Int.emod_lt_of_pos (a % 18446744073709551616) hFp; omega
  rw [hF3] at hm2
  clear hm hFp hFb hF3
  obtain ⟨B, hB⟩ : ∃ B : Nat, (B : Int) = by_ := ⟨by_.toNat, by omega⟩
  obtain ⟨K, hK⟩ : ∃ K : Nat, (K : Int) = 3 + (m : Int) := ⟨3 + m, by omega⟩
  have hK' : 3 + (m : Int) = (K : Int) := hK.symm
  have hK3 : (3 : Int) ≤ (K : Int) := by omega
  have hKN : (K : Int) + 4 ≤ (N : Int) + 3 := by omega
  obtain ⟨f, hf⟩ : ∃ f : Nat → Nat, f = fun i => B / 2 ^ (8 * i) % 256 := ⟨_, rfl⟩
  have HF : Hid (∀ i, f i = B / 2 ^ (8 * i) % 256) := fun i => by rw [hf]
  have HFl : Hid (∀ i, f i < 256) := fun i => by rw [hf]; exact Nat.mod_lt _ (by omega)
  clear hK hf hmF
  go_wp2
  go_loopg [42] 4 (fun gk i wr => ∃ r : Nat, r ≤ 4 ∧ gk = 4 - r ∧ i = .int .i64 r ∧ Kp (fun b => b = g) w3 wr ∧ Hid (Ow wr w2.heap.size (.slice (some ⟨g, 0, none⟩) (frm ys).length c3) (tr (frm ys) K f r)))
  case atStart => exact ⟨0, by omega, rfl, rfl, Kp.refl _ _, by rw [tr_zero]; exact HO3.out⟩
  case round =>
    obtain ⟨r, hr, rfl, rfl, hKr, HOr⟩ := hrel
    by_cases hlt : (r : Int) < 4
    · have hin : K + r < (frm ys).length := by rw [HFL.out]; omega
      have c1 : wr.cell? ⟨g, K + r, none⟩ = some (.int .u8 (((frm ys).getD (K + r) 0 : Nat) : Int)) := by
        have HOr' := HOr.out
        rw [← tr_length (frm ys) K f r] at HOr'
        obtain ⟨q, c, e, _, hq, _⟩ := Ow.rb HOr' (tr_byte HFB.out HFl.out r)
        injection e with e1 e2 e3
        subst e1
        obtain ⟨b', o', e', hcell⟩ := hq.cell (K + r) (by rw [tr_length]; exact hin)
        simp only [Option.some.injEq, Addr.mk.injEq, and_true] at e'
        obtain ⟨rfl, rfl⟩ := e'
        rw [tr_here _ _ _ _ hin, Nat.zero_add] at hcell
        exact hcell
      have c2 : wr.frozen? ⟨g, K + r, none⟩ = false := by
        have HOr' := HOr.out
        rw [← tr_length (frm ys) K f r] at HOr'
        exact World.ownsRow.frozenAt HOr' (K + r)
      have hx : (frm ys).getD (K + r) 0 < 256 := by
        rw [List.getD_eq_getElem?_getD, List.getElem?_eq_getElem hin]; exact HFB.out _ (List.getElem_mem hin)
      obtain ⟨x, hxe⟩ : ∃ x, x = (frm ys).getD (K + r) 0 := ⟨_, rfl⟩
      rw [← hxe] at c1 hx
      have HV : Hid (bits .xor .u8 (x : Int) (by_ / 2 ^ (8 * r) % 256) = ((x ^^^ f r : Nat) : Int)) := by
        show _ = _
        rw [← hB, HF.out r, ← turn_byte x B (8 * r) hx]
      have HS : Hid (Ow (wr.setCell ⟨g, K + r, none⟩ (.int .u8 ((x ^^^ f r : Nat) : Int))) w2.heap.size (.slice (some ⟨g, 0, none⟩) (frm ys).length c3) (tr (frm ys) K f (r + 1))) := by
        have HOr' := HOr.out
        have hl := tr_length (frm ys) K f r
        have hl' := tr_length (frm ys) K f (r + 1)
        unfold Ow at HOr'
        rw [hl] at HOr'
        have := (World.ownsRow.stored HOr' (K + r) (.int .u8 ((x ^^^ f r : Nat) : Int))).1
        show World.ownsRow _ _ _ _ _ (tr (frm ys) K f (r + 1)).length _
        rw [hl', tr_succ _ _ _ _ hin, vl_set, ← hxe]
        exact this
      clear hxe hin
      go_wp2
      go_region
      all_goals
        go_wp2
        go_roundg (4 - (r + 1))
        case rel => exact ⟨r + 1, by omega, rfl, by go_num, by rw [HV.out]; exact (hKr.setCell (fun _ => rfl) _).drew, by rw [HV.out]; exact ow_drew HS.out⟩
        case measure => omega
    · have e : r = 4 := by omega
      subst e
      have HOr' := HOr.out
      have hl := tr_length (frm ys) K f 4
      have HOx : Hid (Ow wr w2.heap.size (.slice (some ⟨g, 0, none⟩) (tr (frm ys) K f 4).length c3) (tr (frm ys) K f 4)) := by rw [hl]; exact HOr'
      obtain ⟨q, cq, e, hcq, rq, _⟩ := HOx.out.rb (tr_byte HFB.out HFl.out 4)
      injection e with e1 e2 e3
      subst e1 e3
      rw [hl, HFL.out] at hcq rq
      have k0r : Kp (fun _ => False) w wr := k03.trans hKr (fun b hb e => by have := k2.size; omega)
      have HUn : Hid (Calls _ _ _ wr _) := unwrap_any (some ⟨g, 0, none⟩) (N + 7) c3 _ wr rq hcq (by show _ ≤ _; omega) (ht.keep0 k0r)
      clear HOr' hl HOx rq HOr HO3
      by_cases h0 : B = 0
      · have hby : by_ = 0 := by omega
        have HE : Hid (lkE (tr (frm ys) K f 4) = 0) := by
          show _ = _
          have : f = fun _ => 0 := funext fun i => by rw [HF.out i, h0]; simp
          rw [this, tr_none]
          have := lk_frame ys [] (by have := HN.out; omega)
          rwa [List.append_nil] at this
        rw [HE.out] at HUn
        subst hby
        clear hw hB h0
        go_wp2_with fail
        refine HUn.out.mono ?_
        rintro e w4 ⟨v4, v5, rfl, k4, o4, o5⟩
        clear o4 o5
        go_wp2
        go_ret
        exact ⟨rfl, k0r.trans k4 (fun _ _ e => e)⟩
      · have HE : Hid (lkE (tr (frm ys) K f 4) = 52) := lk_turned ys K f (by have := HN.out; omega) HB.out (by have := HN.out; omega) (by omega) (by have := HN.out; omega) HFl.out (fun ⟨z0, z1, z2, z3⟩ => by
          rw [HF.out] at z0 z1 z2 z3
          simp only [Nat.mul_zero, Nat.pow_zero, Nat.div_one, Nat.mul_one, show 8 * 2 = 16 from rfl, show 8 * 3 = 24 from rfl] at z0 z1 z2 z3
          omega)
        have d1 : (by_ == 0) = false := by rw [beq_eq_false_iff_ne]; omega
        have d2 : (by_ != 0) = true := by rw [bne_iff_ne]; omega
        rw [HE.out] at HUn
        clear hB h0
        go_wp2_with fail
        refine HUn.out.mono ?_
        rintro e w4 ⟨v4, v5, rfl, k4, o4, o5⟩
        clear o4 o5
        go_wp2
        go_ret
        exact ⟨rfl, k0r.trans k4 (fun _ _ e => e)⟩

set_option maxRecDepth 100000 in
set_option maxHeartbeats 3200000 in
theorem frameBursts_walkB (p : Option Addr) (n c : Nat) (xs : List Nat) (a by_ : Int) (w : World) (h : Rb w p n xs) (hc : n ≤ c) (_hn : Hid (n ≤ 140737488355328)) (hw : 0 ≤ by_ ∧ by_ < 4294967296) (ht : Turns w) (hle : (2000 : Int) < (n : Int)) :
    Calls Tryd.prog 5 #[.slice p n c, .int .i64 a, .int .u32 by_] w fun e w' => e = .returned (.bool true) ∧ Kp (fun _ => False) w w' := by
  have HX : Hid ((xs.take 2000).length = 2000) := by show _ = _; rw [List.length_take, h.len]; omega
  have HB : Hid (∀ x ∈ xs.take 2000 ++ [1, 2, 3, 4], x < 256) := fun x hx => by
    rcases List.mem_append.1 hx with hx | hx
    · exact h.byte x (List.mem_of_mem_take hx)
    · simp only [List.mem_cons, List.not_mem_nil, or_false] at hx; omega
  have HR0 : Hid (Rb w p 2000 (xs.take 2000)) := h.first (by omega)
  clear h
  go_enter Tryd.func5, Tryd.ntmps5
  go_wp2_with fail
  refine (clone_any p 2000 c (xs.take 2000) w HR0.out (by show _ ≤ _; omega)).mono ?_
  rintro e w1 ⟨v1, rfl, k1, o1⟩
  have HO1 : Hid (Ow (w1.alloc (.cells #[.int .u8 1, .int .u8 2, .int .u8 3, .int .u8 4] 5)) w.heap.size v1 (xs.take 2000)) := World.ownsRow.alloc o1 _
  have k1' := k1.alloc (.cells #[.int .u8 1, .int .u8 2, .int .u8 3, .int .u8 4] 5)
  clear o1
  go_wp2_with (at_builtin; refine wpList_append_bytes _ rfl _ _ rfl w.heap.size v1 (xs.take 2000) rfl HO1.out (some ⟨w1.heap.size, 0, none⟩) 4 4 [1, 2, 3, 4] rfl (rb_lit4 w1) (by have := HX.out; omega) k1'.size ?_
               intro v2 w2 o2 hk2 hb2)
  have k2 := Kp.app k1' HO1.out hk2
  obtain ⟨ys, hys⟩ : ∃ ys, ys = xs.take 2000 ++ [1, 2, 3, 4] := ⟨_, rfl⟩
  rw [← hys] at o2 HB
  have HY : Hid (ys.length = 2000 + 4) := by show _ = _; rw [hys, List.length_append, HX.out]; rfl
  clear hys HX HO1 hk2 hb2
  obtain ⟨p2, c2, rfl, hc2, r2, _⟩ := o2.rb HB.out
  obtain ⟨N, hN⟩ : ∃ N, N = ys.length := ⟨_, rfl⟩
  rw [← hN] at hc2 r2 ⊢
  have HN : Hid (N = ys.length) := hN
  have hNb : (N : Int) ≤ 2004 := by have := HY.out; omega
  have hN4 : (4 : Int) ≤ (N : Int) := by have := HY.out; omega
  clear o2 hN
  refine (wrap_yes p2 _ c2 ys w2 r2 (by omega) (by omega) (ht.keep0 k2)).mono ?_
  rintro e w3 ⟨v3, rfl, k3, o3⟩
  have k03 := k2.trans k3 (fun _ _ e => e)
  have HFL : Hid ((frm ys).length = N + 7) := by show _ = _; rw [frm_length, HN.out]
  obtain ⟨g, c3, rfl, hg, hglt⟩ := World.ownsRow.form o3 (by rw [HFL.out]; omega)
  have HFB : Hid (∀ x ∈ frm ys, x < 256) := frm_byte HB.out (by have := HN.out; omega)
  have HO3 : Hid (Ow w3 w2.heap.size (.slice (some ⟨g, 0, none⟩) (frm ys).length c3) (frm ys)) := o3
  rw [HFL.out]
  clear o3 r2
  obtain ⟨F3, hF3⟩ : ∃ F : Nat, (F : Int) = (N : Int) - 3 := ⟨N - 3, by omega⟩
  have hFp : (0 : Int) < (F3 : Int) := by omega
  have hFb : (F3 : Int) ≤ 3000 := by omega
  obtain ⟨m, hm⟩ : ∃ m : Nat, (m : Int) = (a % 18446744073709551616) % (F3 : Int) := ⟨((a % 18446744073709551616) % (F3 : Int)).toNat, by
    rw [Int.toNat_of_nonneg (Int.emod_nonneg _ (by omega))]⟩
  have hm2 : wrap64 ((IntKind.u64.wrap a).tmod (F3 : Int)) = (m : Int) := rem_form a F3 m hFp hFb hm
  have hmF : (m : Int) < (N : Int) - 3 := by have := Int.emod_lt_of_pos (a % 18446744073709551616) hFp; omega
  rw [hF3] at hm2
  clear hm hFp hFb hF3
  obtain ⟨B, hB⟩ : ∃ B : Nat, (B : Int) = by_ := ⟨by_.toNat, by omega⟩
  obtain ⟨K, hK⟩ : ∃ K : Nat, (K : Int) = 3 + (m : Int) := ⟨3 + m, by omega⟩
  have hK' : 3 + (m : Int) = (K : Int) := hK.symm
  have hK3 : (3 : Int) ≤ (K : Int) := by omega
  have hKN : (K : Int) + 4 ≤ (N : Int) + 3 := by omega
  obtain ⟨f, hf⟩ : ∃ f : Nat → Nat, f = fun i => B / 2 ^ (8 * i) % 256 := ⟨_, rfl⟩
  have HF : Hid (∀ i, f i = B / 2 ^ (8 * i) % 256) := fun i => by rw [hf]
  have HFl : Hid (∀ i, f i < 256) := fun i => by rw [hf]; exact Nat.mod_lt _ (by omega)
  clear hK hf hmF
  go_wp2
  go_loopg [42] 4 (fun gk i wr => ∃ r : Nat, r ≤ 4 ∧ gk = 4 - r ∧ i = .int .i64 r ∧ Kp (fun b => b = g) w3 wr ∧ Hid (Ow wr w2.heap.size (.slice (some ⟨g, 0, none⟩) (frm ys).length c3) (tr (frm ys) K f r)))
  case atStart => exact ⟨0, by omega, rfl, rfl, Kp.refl _ _, by rw [tr_zero]; exact HO3.out⟩
  case round =>
    obtain ⟨r, hr, rfl, rfl, hKr, HOr⟩ := hrel
    by_cases hlt : (r : Int) < 4
    · have hin : K + r < (frm ys).length := by rw [HFL.out]; omega
      have c1 : wr.cell? ⟨g, K + r, none⟩ = some (.int .u8 (((frm ys).getD (K + r) 0 : Nat) : Int)) := by
        have HOr' := HOr.out
        rw [← tr_length (frm ys) K f r] at HOr'
        obtain ⟨q, c, e, _, hq, _⟩ := Ow.rb HOr' (tr_byte HFB.out HFl.out r)
        injection e with e1 e2 e3
        subst e1
        obtain ⟨b', o', e', hcell⟩ := hq.cell (K + r) (by rw [tr_length]; exact hin)
        simp only [Option.some.injEq, Addr.mk.injEq, and_true] at e'
        obtain ⟨rfl, rfl⟩ := e'
        rw [tr_here _ _ _ _ hin, Nat.zero_add] at hcell
        exact hcell
      have c2 : wr.frozen? ⟨g, K + r, none⟩ = false := by
        have HOr' := HOr.out
        rw [← tr_length (frm ys) K f r] at HOr'
        exact World.ownsRow.frozenAt HOr' (K + r)
      have hx : (frm ys).getD (K + r) 0 < 256 := by
        rw [List.getD_eq_getElem?_getD, List.getElem?_eq_getElem hin]; exact HFB.out _ (List.getElem_mem hin)
      obtain ⟨x, hxe⟩ : ∃ x, x = (frm ys).getD (K + r) 0 := ⟨_, rfl⟩
      rw [← hxe] at c1 hx
      have HV : Hid (bits .xor .u8 (x : Int) (by_ / 2 ^ (8 * r) % 256) = ((x ^^^ f r : Nat) : Int)) := by
        show _ = _
        rw [← hB, HF.out r, ← turn_byte x B (8 * r) hx]
      have HS : Hid (Ow (wr.setCell ⟨g, K + r, none⟩ (.int .u8 ((x ^^^ f r : Nat) : Int))) w2.heap.size (.slice (some ⟨g, 0, none⟩) (frm ys).length c3) (tr (frm ys) K f (r + 1))) := by
        have HOr' := HOr.out
        have hl := tr_length (frm ys) K f r
        have hl' := tr_length (frm ys) K f (r + 1)
        unfold Ow at HOr'
        rw [hl] at HOr'
        have := (World.ownsRow.stored HOr' (K + r) (.int .u8 ((x ^^^ f r : Nat) : Int))).1
        show World.ownsRow _ _ _ _ _ (tr (frm ys) K f (r + 1)).length _
        rw [hl', tr_succ _ _ _ _ hin, vl_set, ← hxe]
        exact this
      clear hxe hin
      go_wp2
      go_region
      all_goals
        go_wp2
        go_roundg (4 - (r + 1))
        case rel => exact ⟨r + 1, by omega, rfl, by go_num, by rw [HV.out]; exact (hKr.setCell (fun _ => rfl) _).drew, by rw [HV.out]; exact ow_drew HS.out⟩
        case measure => omega
    · have e : r = 4 := by omega
      subst e
      have HOr' := HOr.out
      have hl := tr_length (frm ys) K f 4
      have HOx : Hid (Ow wr w2.heap.size (.slice (some ⟨g, 0, none⟩) (tr (frm ys) K f 4).length c3) (tr (frm ys) K f 4)) := by rw [hl]; exact HOr'
      obtain ⟨q, cq, e, hcq, rq, _⟩ := HOx.out.rb (tr_byte HFB.out HFl.out 4)
      injection e with e1 e2 e3
      subst e1 e3
      rw [hl, HFL.out] at hcq rq
      have k0r : Kp (fun _ => False) w wr := k03.trans hKr (fun b hb e => by have := k2.size; omega)
      have HUn : Hid (Calls _ _ _ wr _) := unwrap_any (some ⟨g, 0, none⟩) (N + 7) c3 _ wr rq hcq (by show _ ≤ _; omega) (ht.keep0 k0r)
      clear HOr' hl HOx rq HOr HO3
      by_cases h0 : B = 0
      · have hby : by_ = 0 := by omega
        have HE : Hid (lkE (tr (frm ys) K f 4) = 0) := by
          show _ = _
          have : f = fun _ => 0 := funext fun i => by rw [HF.out i, h0]; simp
          rw [this, tr_none]
          have := lk_frame ys [] (by have := HN.out; omega)
          rwa [List.append_nil] at this
        rw [HE.out] at HUn
        subst hby
        clear hw hB h0
        go_wp2_with fail
        refine HUn.out.mono ?_
        rintro e w4 ⟨v4, v5, rfl, k4, o4, o5⟩
        clear o4 o5
        go_wp2
        go_ret
        exact ⟨rfl, k0r.trans k4 (fun _ _ e => e)⟩
      · have HE : Hid (lkE (tr (frm ys) K f 4) = 52) := lk_turned ys K f (by have := HN.out; omega) HB.out (by have := HN.out; omega) (by omega) (by have := HN.out; omega) HFl.out (fun ⟨z0, z1, z2, z3⟩ => by
          rw [HF.out] at z0 z1 z2 z3
          simp only [Nat.mul_zero, Nat.pow_zero, Nat.div_one, Nat.mul_one, show 8 * 2 = 16 from rfl, show 8 * 3 = 24 from rfl] at z0 z1 z2 z3
          omega)
        have d1 : (by_ == 0) = false := by rw [beq_eq_false_iff_ne]; omega
        have d2 : (by_ != 0) = true := by rw [bne_iff_ne]; omega
        rw [HE.out] at HUn
        clear hB h0
        go_wp2_with fail
        refine HUn.out.mono ?_
        rintro e w4 ⟨v4, v5, rfl, k4, o4, o5⟩
        clear o4 o5
        go_wp2
        go_ret
        exact ⟨rfl, k0r.trans k4 (fun _ _ e => e)⟩

theorem frameBursts_walk (p : Option Addr) (n c : Nat) (xs : List Nat) (a by_ : Int) (w : World) (h : Rb w p n xs) (hc : n ≤ c) (hn : Hid (n ≤ 140737488355328)) (_ : (Lit.int .i64 a).wf = true) (hw : (Lit.int .u32 by_).wf = true) (ht : Turns w) :
    Calls Tryd.prog 5 #[.slice p n c, .int .i64 a, .int .u32 by_] w fun e w' => e = .returned (.bool true) ∧ Kp (fun _ => False) w w' := by
  have hb : 0 ≤ by_ ∧ by_ < 4294967296 := by have := bounds_u32 hw; omega
  by_cases hle : (n : Int) ≤ 2000
  · exact frameBursts_walkA p n c xs a by_ w h hc hn hb ht hle
  · exact frameBursts_walkB p n c xs a by_ w h hc hn hb ht (by omega)
end Go.Proofs.YtlgockombdjbpaaDoor
