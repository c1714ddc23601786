/- The document's chain: a chain of its own; Learn refused, and Learn of a new one. -/
import Derived.Test.YtjbgpbafgpdciaaXc
namespace Go.Proofs.Ytjbgpbafgpdciaa
set_option linter.unusedVariables false
set_option linter.unusedSimpArgs false
open Go.RowKit Go.Deep Go.Maps

/-- the document's chain at t, its row of its own -/
structure Xq (w : World) (base t : Nat) (v : Value) (l : List (Xk × Value)) : Prop where
  lv : Lv w t [v]
  o : w.ownsRow base 62 13 v l.length (kflat l)
  n : ∀ y ∈ l, Ni w (fun b => b < w.heap.size ∧ v.ownBlock ≠ some b ∧ b ≠ t) y.1.nodes y.2
  z : l.length ≤ 1000
  dm : ∀ y ∈ l, 1 ≤ y.1.slot ∧ y.1.slot ≤ 1152921504606846976
  ne : v.ownBlock ≠ some t
  bt : base ≤ t
theorem Xq.xh {w : World} {base t : Nat} {v : Value} {l : List (Xk × Value)} (h : Xq w base t v l) : Xh w (fun b => b ≠ t) t l := by
  obtain ⟨q, cq, e, hf⟩ := own_fl h.o
  have hlv := h.lv
  rw [e] at hlv
  refine ⟨⟨q, cq, hlv, ⟨fun j u hu => ?_, fun y hy => (h.n y hy).mono (fun b hb => hb.2.2), by have := h.z; omega⟩⟩, fun z x hx => ?_, fun e => e rfl⟩
  · obtain ⟨b, o, e2, hb, hc⟩ := hf j u hu
    refine ⟨b, o, e2, fun e3 => ?_, hc⟩
    rcases h.o.2 with ⟨e4, e5⟩ | ⟨g, cap, cur, e4, _⟩
    · rw [e] at e4
      injection e4 with e6
      rw [e6] at e2
      cases e2
    · rw [e] at e4
      injection e4 with e6
      rw [e6] at e2
      injection e2 with e7
      injection e7 with e8
      apply h.ne
      rw [e, e6]
      show some g = some t
      rw [e8, e3]
  · unfold CX xat at hx
    obtain ⟨y, hy, _⟩ := Option.map_eq_some_iff.1 hx
    have h1 := List.find?_some hy
    have h2 := List.mem_of_find?_eq_some hy
    obtain ⟨y2, h3, rfl⟩ := List.mem_map.1 h2
    have : y2.1.slot = z := by simpa using h1
    rw [← this]
    exact h.dm y2 h3
theorem infoXk0 : (Try.prog.info? 62).map (fun i => (i.zero.map (·.cells.size), i.size, i.bytes)) = some (some 13, 13, 128) := by kernel_rfl
theorem infoXk : ∃ i z, Try.prog.info? 62 = some i ∧ i.zero = some z ∧ i.size = 13 ∧ i.bytes = 128 ∧ z.cells.size = 13 := by
  obtain ⟨i, hi, he⟩ := Option.map_eq_some_iff.1 infoXk0
  simp only [Prod.mk.injEq] at he
  obtain ⟨h1, h2, h3⟩ := he
  obtain ⟨z, hz, h4⟩ := Option.map_eq_some_iff.1 h1
  exact ⟨i, z, hi, hz, h2, h3, h4⟩
theorem uXk : Try.prog.underlying 26 = some (.slice 62) := Try.underlying26

set_option maxRecDepth 100000 in
set_option maxHeartbeats 1600000 in
theorem xclearn_arg (t : Nat) (z : Int) (ca : Array Value) (w : World) (hz : ¬ (1 ≤ z ∧ z ≤ 1152921504606846976)) :
    Calls Try.prog 11 #[.pointer (some ⟨t, 0, none⟩), .int .i64 z, .agg ca] w fun e w' => e = .returned (.int .i64 1) ∧ Kp (fun _ => False) w w' := by
  by_cases h1 : z < 1
  · go_enter Try.func11, Try.ntmps11
    go_wp2
    go_ret
    exact ⟨rfl, (Kp.refl _ _).alloc _⟩
  · have h2 : z > 1152921504606846976 := by omega
    go_enter Try.func11, Try.ntmps11
    go_wp2
    go_ret
    exact ⟨rfl, (Kp.refl _ _).alloc _⟩

set_option maxRecDepth 100000 in
set_option maxHeartbeats 3200000 in
theorem xclearn_new {w : World} {base t : Nat} {v : Value} {l : List (Xk × Value)} (h : Xq w base t v l) (s : Int) (hs : 1 ≤ s ∧ s ≤ 1152921504606846976) (d : Cs0) (zs : List Int) (nv0 : Value) (hn : Ni w (fun b => b < w.heap.size ∧ v.ownBlock ≠ some b ∧ b ≠ t) zs nv0) (hx : CX (l.map (·.1)) s = none) (hl : l.length < 1000) :
    Calls Try.prog 11 #[.pointer (some ⟨t, 0, none⟩), .int .i64 s, .agg (cmdA d nv0)] w fun e w' => e = .returned (.int .i64 0) ∧ Kp (fun b => b = t ∨ v.ownBlock = some b) w w' ∧ ∃ v' nv, Xq w' base t v' (l ++ [(⟨s, d, zs⟩, nv)]) ∧ (v'.ownBlock = v.ownBlock ∨ ∃ g, v'.ownBlock = some g ∧ w.heap.size ≤ g) ∧ Ni w' (fun b => w.heap.size ≤ b) zs nv := by
  have hs1 : ¬ (s < 1) := by omega
  have hs2 : ¬ (s > 1152921504606846976) := by omega
  have HQ : Hid (Xq w base t v l) := h
  have HNI : Hid (Ni w (fun b => b < w.heap.size ∧ v.ownBlock ≠ some b ∧ b ≠ t) zs nv0) := hn
  have HLn : Hid (l.length < 1000 ∧ 1 ≤ s ∧ s ≤ 1152921504606846976) := ⟨hl, hs⟩
  have k0 : Kp (fun _ => False) w (w.alloc (.cells (cmdA d nv0) 34)) := (Kp.refl _ _).alloc _
  have HBx : Hid (Lv (w.alloc (.cells (cmdA d nv0) 34)) w.heap.size (cmdA d nv0).toList) := Lv.new w _ _
  have HG : Hid (Calls Try.prog 15 #[.pointer (some ⟨t, 0, none⟩), .int .i64 s] (w.alloc (.cells (cmdA d nv0) 34)) fun e w' => ∃ v, e = .returned (.tuple #[v, .bool false]) ∧ Kp (fun _ => False) (w.alloc (.cells (cmdA d nv0) 34)) w' ∧ Told (w.alloc (.cells (cmdA d nv0) 34)) w' (at0 (CX (l.map (·.1))) s) v) := by
    have := xcget2 (h.xh.keep0 k0) s
    rw [hx] at this
    exact this
  have HK0 : Hid (Kp (fun _ => False) w (w.alloc (.cells (cmdA d nv0) 34))) := k0
  obtain ⟨y, hy⟩ : ∃ y, y = at0 (CX (l.map (·.1))) s := ⟨_, rfl⟩
  rw [← hy] at HG
  clear h hn hl hs k0 hx hy
  go_enter Try.func11, Try.ntmps11
  go_wp2_with fail
  refine HG.out.mono ?_
  rintro e w1 ⟨vg, rfl, k1, nvg, rfl, hni⟩
  have HOc : Hid ((cmdA y.1 nvg).toList.toArray.all (·.oneCell') = true) := cmd_one y.1 (by obtain ⟨_, _, e, _⟩ := hni; rw [e]; rfl)
  obtain ⟨ya, hya⟩ : ∃ ya : Array Value, ya = cmdA y.1 nvg := ⟨_, rfl⟩
  have HYA : Hid (ya = cmdA y.1 nvg) := hya
  rw [← hya] at HOc ⊢
  clear HG hni hya
  go_wp2_with (refine wpList_store_all rfl 34 _ _ rfl 12 w1.heap.size zeroC.toList ya.toList rfl (by rw [Array.toArray_toList]; rfl) (by exact Lv.new w1 _ _) szCmd rfl (by rw [HYA.out]; rfl) HOc.out ?_; intro w2 hl2 k2; have HK2 : Hid (Kp (fun _ => False) w w2 ∧ Lv w2 w.heap.size (cmdA d nv0).toList) := ⟨(HK0.out.trans k1 (fun _ _ e => e)).trans (((Kp.refl (fun _ => False) w1).alloc _).trans k2 (fun b hb e => by omega)) (fun _ _ e => e), (HBx.out.keep k1 id).keep (((Kp.refl (fun _ => False) w1).alloc _).trans k2 (fun b hb e => by omega)) id⟩; clear hl2 k2)
  have kd : Kp (fun _ => False) w2 w2.drew := (Kp.refl _ _).drew
  obtain ⟨kw2, lbx⟩ := HK2.out
  have hq := HQ.out
  have hS0 : (loadVar 34 ⟨w.heap.size, 0, none⟩).run Try.prog w2.drew = .ok (.agg (cmdA d nv0)) w2.drew := (lbx.keep kd id).load dsCmd szCmd rfl
  have hC : w2.drew.cell? ⟨t, 0, none⟩ = some v := ((hq.lv.keep kw2 id).keep kd id).cell (j := 0) rfl
  have HLT : Hid (t < w.heap.size ∧ ∀ b, v.ownBlock = some b → b < w.heap.size) := ⟨hq.lv.lt (by simp), fun b e => (ownBlock_lt hq.o e).2⟩
  have hc8 : Calls Try.prog 27 #[.agg (cmdA d nv0)] w2.drew fun e w9 => ∃ (q : Option Addr) (cq g cap : Nat) (w3 : World), e = .returned (.agg (cmdA d (.slice q zs.length cq))) ∧ ((loadVar 34 ⟨w.heap.size, 0, none⟩).run Try.prog w9 = .ok (.agg (cmdA d nv0)) w9) ∧ ((loadVar 34 ⟨w.heap.size, 0, none⟩).run Try.prog (w9.alloc (.cells #[.int .i64 s, .int .i64 d.id, .int .i64 d.kind, .string d.key, .int .i64 d.blob, .int .i64 d.other, .int .i64 d.index, .int .i64 d.node, .int .i64 d.size, .int .u32 d.sum, .int .i64 d.k, .int .i64 d.m, .slice q zs.length cq] 62)) = .ok (.agg (cmdA d nv0)) (w9.alloc (.cells #[.int .i64 s, .int .i64 d.id, .int .i64 d.kind, .string d.key, .int .i64 d.blob, .int .i64 d.other, .int .i64 d.index, .int .i64 d.node, .int .i64 d.size, .int .u32 d.sum, .int .i64 d.k, .int .i64 d.m, .slice q zs.length cq] 62))) ∧ ((loadVar 34 ⟨w.heap.size, 0, none⟩).run Try.prog w3 = .ok (.agg (cmdA d nv0)) w3) ∧ ((loadVar 34 ⟨w.heap.size, 0, none⟩).run Try.prog (w3.setCell ⟨t, 0, none⟩ (.slice (some ⟨g, 0, none⟩) (l.length + 1) cap)) = .ok (.agg (cmdA d nv0)) (w3.setCell ⟨t, 0, none⟩ (.slice (some ⟨g, 0, none⟩) (l.length + 1) cap))) ∧ w9.cell? ⟨t, 0, none⟩ = some v ∧ (w9.alloc (.cells #[.int .i64 s, .int .i64 d.id, .int .i64 d.kind, .string d.key, .int .i64 d.blob, .int .i64 d.other, .int .i64 d.index, .int .i64 d.node, .int .i64 d.size, .int .u32 d.sum, .int .i64 d.k, .int .i64 d.m, .slice q zs.length cq] 62)).cell? ⟨t, 0, none⟩ = some v ∧ w3.cell? ⟨t, 0, none⟩ = some v ∧ w3.frozen? ⟨t, 0, none⟩ = false ∧ (Builtin.append_ #[26, 26] 26 #[v, .slice (some ⟨w9.heap.size, 0, none⟩) 1 1]).run Try.prog (w9.alloc (.cells #[.int .i64 s, .int .i64 d.id, .int .i64 d.kind, .string d.key, .int .i64 d.blob, .int .i64 d.other, .int .i64 d.index, .int .i64 d.node, .int .i64 d.size, .int .u32 d.sum, .int .i64 d.k, .int .i64 d.m, .slice q zs.length cq] 62)) = .ok (.slice (some ⟨g, 0, none⟩) (l.length + 1) cap) w3 ∧ (Kp (fun b => b = t ∨ v.ownBlock = some b) w (w3.setCell ⟨t, 0, none⟩ (.slice (some ⟨g, 0, none⟩) (l.length + 1) cap)) ∧ ∃ v' nv, Xq (w3.setCell ⟨t, 0, none⟩ (.slice (some ⟨g, 0, none⟩) (l.length + 1) cap)) base t v' (l ++ [(⟨s, d, zs⟩, nv)]) ∧ (v'.ownBlock = v.ownBlock ∨ ∃ g, v'.ownBlock = some g ∧ w.heap.size ≤ g) ∧ Ni (w3.setCell ⟨t, 0, none⟩ (.slice (some ⟨g, 0, none⟩) (l.length + 1) cap)) (fun b => w.heap.size ≤ b) zs nv) := by
    obtain ⟨p0, c0, e0, hf0, hz0⟩ := HNI.out
    rw [e0]
    refine (copy_cmd d _ p0 c0 zs w2.drew ((hf0.keep kw2 (fun _ _ => id)).keep kd (fun _ _ => id)) hz0).mono ?_
    rintro e w9 ⟨q, cq, rfl, k9, hfl⟩
    rw [← e0]
    have k29 : Kp (fun _ => False) w w9 := (kw2.trans kd (fun _ _ e => e)).trans k9 (fun _ _ e => e)
    have lb9 : Lv w9 w.heap.size (cmdA d nv0).toList := (lbx.keep kd id).keep k9 id
    have ka : Kp (fun _ => False) w9 (w9.alloc (.cells #[.int .i64 s, .int .i64 d.id, .int .i64 d.kind, .string d.key, .int .i64 d.blob, .int .i64 d.other, .int .i64 d.index, .int .i64 d.node, .int .i64 d.size, .int .u32 d.sum, .int .i64 d.k, .int .i64 d.m, .slice q zs.length cq] 62)) := (Kp.refl _ _).alloc _
    have k2a := k29.trans ka (fun _ _ e => e)
    have lnk : Lv (w9.alloc (.cells #[.int .i64 s, .int .i64 d.id, .int .i64 d.kind, .string d.key, .int .i64 d.blob, .int .i64 d.other, .int .i64 d.index, .int .i64 d.node, .int .i64 d.size, .int .u32 d.sum, .int .i64 d.k, .int .i64 d.m, .slice q zs.length cq] 62)) w9.heap.size [.int .i64 s, .int .i64 d.id, .int .i64 d.kind, .string d.key, .int .i64 d.blob, .int .i64 d.other, .int .i64 d.index, .int .i64 d.node, .int .i64 d.size, .int .u32 d.sum, .int .i64 d.k, .int .i64 d.m, .slice q zs.length cq] := Lv.new w9 _ _
    obtain ⟨wa, hwa⟩ : ∃ x, x = w9.alloc (.cells #[.int .i64 s, .int .i64 d.id, .int .i64 d.kind, .string d.key, .int .i64 d.blob, .int .i64 d.other, .int .i64 d.index, .int .i64 d.node, .int .i64 d.size, .int .u32 d.sum, .int .i64 d.k, .int .i64 d.m, .slice q zs.length cq] 62) := ⟨_, rfl⟩
    have hsa : wa.heap.size = w9.heap.size + 1 := by rw [hwa]; simp
    refine ⟨q, cq, ?_⟩
    rw [← hwa] at ka k2a lnk ⊢
    obtain ⟨ti, tz, hi1, hi2, hi3, hi4, hi5⟩ := infoXk
    have hlt := HLT.out
    have hz9 := k29.size
    obtain ⟨v3, w3, hap, ow3, gr3, bl3⟩ := run_append_own_src (P := Try.prog) wa base 26 26 26 62 ti tz 13 128 uXk hi1 hi2 hi3 hi4 hi5 (by decide) v l.length (kflat l) (ownsRow_keep hq.o k2a (fun _ _ e => e)) (.slice (some ⟨w9.heap.size, 0, none⟩) 1 1) 1 [.int .i64 s, .int .i64 d.id, .int .i64 d.kind, .string d.key, .int .i64 d.blob, .int .i64 d.other, .int .i64 d.index, .int .i64 d.node, .int .i64 d.size, .int .u32 d.sum, .int .i64 d.k, .int .i64 d.m, .slice q zs.length cq] (Src.ofSlice _ uXk ⟨w9.heap.size, 0, none⟩ 1 1 [.int .i64 s, .int .i64 d.id, .int .i64 d.kind, .string d.key, .int .i64 d.blob, .int .i64 d.other, .int .i64 d.index, .int .i64 d.node, .int .i64 d.size, .int .u32 d.sum, .int .i64 d.k, .int .i64 d.m, .slice q zs.length cq] rfl (fun j u hj => by rw [Addr.add_mid, Nat.zero_add]; exact lnk.cell hj) (fun u hu => by simp only [List.mem_cons, List.not_mem_nil, or_false] at hu; rcases hu with rfl | rfl | rfl | rfl | rfl | rfl | rfl | rfl | rfl | rfl | rfl | rfl | rfl <;> rfl)) (by have := HLn.out; unfold maxLen; omega) (by have := HLn.out; omega) (by have := hq.bt; omega)
    have hv' : ∃ g cap, v3 = .slice (some ⟨g, 0, none⟩) (l.length + 1) cap := by
      rcases Joins.ownsRow_forms ow3 with ⟨e1, e2⟩ | ⟨g, cap, e⟩
      · omega
      · exact ⟨g, cap, e⟩
    obtain ⟨g, cap, rfl⟩ := hv'
    have k3 := grownBy_kp gr3
    have lt3 : Lv w3 t [v] := (hq.lv.keep k2a id).keep k3 hq.ne
    have hbg : v.ownBlock = some g ∨ g = wa.heap.size := by
      rcases bl3 with e | e
      · exact Or.inl e.symm
      · exact Or.inr (Option.some.inj (show some g = some wa.heap.size from e))
    have hgt : g ≠ t := by
      rcases hbg with e | e
      · intro e2; exact hq.ne (by rw [e, e2])
      · omega
    have hbn : v.ownBlock ≠ some w.heap.size := fun e => by have := hlt.2 _ e; omega
    have lb3 : Lv w3 w.heap.size (cmdA d nv0).toList := (lb9.keep ka id).keep k3 hbn
    have ks : Kp (fun b => b = t) w3 (w3.setCell ⟨t, 0, none⟩ (.slice (some ⟨g, 0, none⟩) (l.length + 1) cap)) := (Kp.refl (fun b => b = t) w3).setCell (fun _ => rfl) _
    have kall : Kp (fun b => b = t ∨ v.ownBlock = some b) w (w3.setCell ⟨t, 0, none⟩ (.slice (some ⟨g, 0, none⟩) (l.length + 1) cap)) := ((k2a.mono (fun _ _ e => e.elim)).trans k3 (fun b _ e => Or.inr e)).trans ks (fun b _ e => Or.inl e)
    have k9z : Kp (fun b => b = t ∨ v.ownBlock = some b) w9 (w3.setCell ⟨t, 0, none⟩ (.slice (some ⟨g, 0, none⟩) (l.length + 1) cap)) := ((ka.mono (fun _ _ e => e.elim)).trans k3 (fun b _ e => Or.inr e)).trans ks (fun b _ e => Or.inl e)
    have hzz := kall.size
    have h9z := k9z.size
    refine ⟨g, cap, w3, rfl, lb9.load dsCmd szCmd rfl, (lb9.keep ka id).load dsCmd szCmd rfl, lb3.load dsCmd szCmd rfl, (lb3.keep ks (fun e => by omega)).load dsCmd szCmd rfl, (hq.lv.keep k29 id).cell (j := 0) rfl, (hq.lv.keep k2a id).cell (j := 0) rfl, lt3.cell (j := 0) rfl, lt3.fz (by simp), hap, kall, .slice (some ⟨g, 0, none⟩) (l.length + 1) cap, .slice q zs.length cq, ?_, ?_, ?_⟩
    · refine ⟨lt3.set1 0 _ (by simp), ?_, fun y hy => ?_, by rw [List.length_append]; have := HLn.out.1; simp; omega, fun y hy => ?_, fun e => hgt (Option.some.inj (show some g = some t from e)), hq.bt⟩
      · rw [List.length_append, kflat_append]
        exact ownsRow_keep ow3 ks (fun g0 e e2 => hgt ((Option.some.inj (show some g = some g0 from e)).trans e2))
      · rcases List.mem_append.1 hy with hy | hy
        · refine ((hq.n y hy).keep kall (fun b hb e => by rcases e with e | e; exact hb.2.2 e; exact hb.2.1 e)).mono (fun b hb => ⟨by omega, fun e => ?_, hb.2.2⟩)
          have e' : g = b := Option.some.inj (show some g = some b from e)
          rcases hbg with e2 | e2
          · exact hb.2.1 (by rw [e2, e'])
          · have := hb.1; omega
        · rw [List.mem_singleton] at hy
          subst hy
          have hds : w2.drew.heap.size = w2.heap.size := rfl
          have hw2 := kw2.size
          refine ⟨q, cq, rfl, (hfl.keep k9z (fun b hb e => ?_)).mono (fun b hb => ⟨by omega, fun e => ?_, by omega⟩), hz0⟩
          · rcases e with e | e
            · omega
            · have := hlt.2 b e; omega
          · have e' : g = b := Option.some.inj (show some g = some b from e)
            rcases hbg with e2 | e2
            · have := hlt.2 g e2; omega
            · omega
      · rcases List.mem_append.1 hy with hy | hy
        · exact hq.dm y hy
        · rw [List.mem_singleton] at hy
          subst hy
          exact HLn.out.2
    · rcases hbg with e | e
      · exact Or.inl (by rw [e]; rfl)
      · exact Or.inr ⟨g, rfl, by omega⟩
    · have hds : w2.drew.heap.size = w2.heap.size := rfl
      have hw2 := kw2.size
      refine ⟨q, cq, rfl, (hfl.keep k9z (fun b hb e => ?_)).mono (fun b hb => by omega), hz0⟩
      rcases e with e | e
      · omega
      · have := hlt.2 b e; omega
  clear hq HQ HNI HLn HLT lbx kw2 kd HK2
  refine xl_region ⟨by kernel_rfl, by kernel_rfl, by kernel_rfl, by kernel_rfl, by kernel_rfl, by kernel_rfl, by kernel_rfl, by kernel_rfl, by kernel_rfl, by kernel_rfl, by kernel_rfl, by kernel_rfl, by kernel_rfl, by kernel_rfl, by kernel_rfl, by kernel_rfl, by kernel_rfl, by kernel_rfl, by kernel_rfl, by kernel_rfl, by kernel_rfl, by kernel_rfl, by kernel_rfl, by kernel_rfl, by kernel_rfl, by kernel_rfl, by kernel_rfl, by kernel_rfl, by kernel_rfl, by kernel_rfl, by kernel_rfl, by kernel_rfl, by kernel_rfl, by kernel_rfl, by kernel_rfl, by kernel_rfl, by kernel_rfl⟩ t w.heap.size l.length v s d nv0 zs.length 0 0 none 0 (fun d _ _ _ _ h => by cases d <;> exact h) (by rfl) (by rfl) (by rfl) (by rfl) hS0 hC (fun z => Kp (fun b => b = t ∨ v.ownBlock = some b) w z ∧ ∃ v' nv, Xq z base t v' (l ++ [(⟨s, d, zs⟩, nv)]) ∧ (v'.ownBlock = v.ownBlock ∨ ∃ g, v'.ownBlock = some g ∧ w.heap.size ≤ g) ∧ Ni z (fun b => w.heap.size ≤ b) zs nv) hc8 ?_ ?_ ?_
  all_goals
    intro q cq g cap w9 w3 hT
    obtain ⟨zz, hzz⟩ : ∃ x, x = w3.setCell ⟨t, 0, none⟩ (.slice (some ⟨g, 0, none⟩) (l.length + 1) cap) := ⟨_, rfl⟩
    rw [← hzz] at hT ⊢
    have HTT : Hid (Kp (fun b => b = t ∨ v.ownBlock = some b) w zz ∧ ∃ v' nv, Xq zz base t v' (l ++ [(⟨s, d, zs⟩, nv)]) ∧ (v'.ownBlock = v.ownBlock ∨ ∃ g, v'.ownBlock = some g ∧ w.heap.size ≤ g) ∧ Ni zz (fun b => w.heap.size ≤ b) zs nv) := hT
    clear hT hzz hc8 hS0 hC
    simp only [Act.put, List.setIfInBounds_toArray, List.set_cons_succ, List.set_cons_zero]
    go_wp2
    go_ret
    exact ⟨rfl, HTT.out⟩
end Go.Proofs.Ytjbgpbafgpdciaa
