/- recode.New of a blob of two shards (laid by scripts/mkrd.py). -/
import Derived.Test.YtmncocmeafcpfaaDoorRa2
import Derived.Test.YtmncocmeafcpfaaDoorRj
namespace Go.Proofs.YtmncocmeafcpfaaDoor
set_option linter.unusedVariables false
set_option linter.unusedSimpArgs false
open Go.RowKit Go.Deep

abbrev zeroR : Array Value := #[.int .i64 0, .int .i64 0, .int .i64 0, .int .i64 0, .slice none 0 0]
theorem rcd_one {v : Value} (hv : v.oneCell' = true) : (rcdA v).toList.toArray.all (·.oneCell') = true := all_oneCell_toArray (fun x hx => by
  simp only [List.mem_cons, List.not_mem_nil, or_false] at hx
  rcases hx with rfl | rfl | rfl | rfl | rfl <;> first | rfl | exact hv)

set_option maxRecDepth 100000 in
set_option maxHeartbeats 1600000 in
theorem cloneRcd_ok (Z : Nat → Prop) (p : Option Addr) (cap : Nat) (zs : List Int) (w : World) (h : Fl w Z p (zs.map encI)) (hn : Hid (zs.length * 8 ≤ 140737488355328)) :
    Calls Tryd.prog 58 #[.agg (rcdA (.slice p zs.length cap))] w fun e w' => ∃ q cq, e = .returned (.agg (rcdA (.slice q zs.length cq))) ∧ Kp (fun _ => False) w w' ∧ Fl w' (fun b => w.heap.size ≤ b ∧ b < w'.heap.size) q (zs.map encI) := by
  have H : Hid (∀ u, Kp (fun _ => False) w u → Calls _ _ _ u _) := fun u k => clone_ints Z p cap zs u (h.keep k (fun _ _ => id)) hn
  obtain ⟨n, hnn⟩ : ∃ n, n = zs.length := ⟨_, rfl⟩
  have HNN : Hid (n = zs.length) := hnn
  rw [← hnn] at H ⊢
  clear h hn hnn
  go_enter Tryd.func58, Tryd.ntmps58
  go_wp2_with fail
  obtain ⟨u, hu⟩ : ∃ x, x = (w.alloc (.cells (rcdA (.slice p n cap)) 66)).alloc (.cells zeroR 66) := ⟨_, rfl⟩
  have z1 : (w.alloc (.cells (rcdA (.slice p n cap)) 66)).heap.size = w.heap.size + 1 := by simp
  have HL1 : Hid (Lv u w.heap.size (rcdA (.slice p n cap)).toList) := by rw [hu]; exact (Lv.new w _ _).keep ((Kp.refl (fun _ => False) _).alloc _) id
  have HL2 : Hid (Lv u (w.heap.size + 1) zeroR.toList) := by rw [hu, ← z1]; exact Lv.new _ _ _
  have k0 : Kp (fun _ => False) w u := by rw [hu]; exact ((Kp.refl _ _).alloc _).alloc _
  have e0 : (w.alloc (.cells (rcdA (.slice p n cap)) 66)).alloc (.cells zeroR 66) = u := hu.symm
  rw [show ((w.alloc (.cells (rcdA (.slice p n cap)) 66)).alloc (.cells #[.int .i64 0, .int .i64 0, .int .i64 0, .int .i64 0, .slice none 0 0] 66)) = u from e0]
  clear e0 hu z1
  obtain ⟨g, hg⟩ : ∃ g, g = w.heap.size := ⟨_, rfl⟩
  obtain ⟨r, hr⟩ : ∃ r, r = w.heap.size + 1 := ⟨_, rfl⟩
  rw [← hg] at HL1
  rw [← hr] at HL2
  rw [← hr, ← hg]
  have HGR : Hid (w.heap.size ≤ g ∧ w.heap.size ≤ r ∧ g ≠ r ∧ g < u.heap.size ∧ r < u.heap.size) := by
    show _ ∧ _
    have h1 := HL1.out.lt (by simp)
    have h2 := HL2.out.lt (by decide)
    omega
  clear hg hr
  refine (H.out u k0).mono ?_
  rintro e w1 ⟨v, rfl, k1, hown⟩
  obtain ⟨q, cq, rfl, hfl⟩ := own_fl hown
  have HFl : Hid (Fl w1 (fun b => u.heap.size ≤ b ∧ b < w1.heap.size) q (zs.map encI)) := hfl
  have HL1a : Hid (Lv w1 g (rcdA (.slice p n cap)).toList) := HL1.out.keep k1 id
  have HL2a : Hid (Lv w1 r zeroR.toList) := HL2.out.keep k1 id
  have c4 : w1.cell? ⟨g, 4, none⟩ = some (.slice p n cap) := HL1a.out.cell (j := 4) rfl
  have f4 : w1.frozen? ⟨g, 4, none⟩ = false := HL1a.out.fz (show 4 < 5 by omega)
  have HF : Hid (Lv (w1.setCell ⟨g, 4, none⟩ (.slice q n cq)) g (rcdA (.slice q n cq)).toList ∧ Lv (w1.setCell ⟨g, 4, none⟩ (.slice q n cq)) r zeroR.toList ∧ Kp (fun b => b = g) w1 (w1.setCell ⟨g, 4, none⟩ (.slice q n cq))) := by
    have ks : Kp (fun b => b = g) w1 (w1.setCell ⟨g, 4, none⟩ (.slice q n cq)) := (Kp.refl (fun b => b = g) w1).setCell (fun _ => rfl) _
    exact ⟨HL1a.out.set1 4 _ (show 4 < 5 by omega), HL2a.out.keep ks (fun e => HGR.out.2.2.1 e.symm), ks⟩
  have HO : Hid ((rcdA (.slice q n cq)).toList.toArray.all (·.oneCell') = true) := rcd_one rfl
  clear HL1 HL2 H hown hfl
  go_wp2_with (first
    | (refine wpList_load_all rfl 66 _ rfl 5 g (rcdA (.slice q n cq)).toList rfl HF.out.1 dsRcd szRcd rfl ?_)
    | (refine wpList_store_all rfl 66 _ _ rfl 5 r zeroR.toList (rcdA (.slice q n cq)).toList rfl rfl HF.out.2.1 szRcd rfl rfl HO.out ?_; intro w3 hl3 k3))
  refine bodyPost_ret (res_cell Tryd.results58 _ _ r _ rfl (hl3.load dsRcd szRcd rfl)) rfl ?_
  have kk : Kp (fun b => b = g ∨ b = r) w1 w3 := (HF.out.2.2.mono (fun _ _ e => Or.inl e)).trans k3 (fun _ _ e => Or.inr e)
  refine ⟨q, ⟨cq, rfl⟩, (k0.trans k1 (fun _ _ e => e)).trans kk (fun b hb e => by have := HGR.out; omega), ?_⟩
  refine (HFl.out.keep kk (fun b hb e => by have := HGR.out; omega)).mono (fun b hb => ⟨Nat.le_trans k0.size hb.1, Nat.lt_of_lt_of_le hb.2 kk.size⟩)

theorem nds5 : Nds [5] := ⟨by decide, fun i j hi hj h => by
  have h1 : i < 1 := hi
  omega⟩
/-- a recoder that fetches -/
structure Rco (w : World) (base r f g q oq cq n : Nat) (sm cnt : Int) (v0 : Value) (p5 : Option Addr) (c5 : Nat) : Prop where
  lr : Lv w r (recA 1 2 (.slice p5 1 c5) (.pointer (some ⟨f, 0, none⟩)) (.pointer none))
  fe : Fe2 w f g q oq cq n sm cnt v0
  fl : Fl w (fun b => base ≤ b ∧ b ≠ r ∧ b ≠ f ∧ b ≠ g) p5 (([5] : List Int).map encI)
  ne : r ≠ f ∧ r ≠ g ∧ r ≠ q
  b : base ≤ r ∧ base ≤ f ∧ base ≤ g ∧ base ≤ q
theorem Rco.keep0 {w w' : World} {base r f g q oq cq n : Nat} {sm cnt : Int} {v0 : Value} {p5 : Option Addr} {c5 : Nat} (h : Rco w base r f g q oq cq n sm cnt v0 p5 c5) (k : Kp (fun _ => False) w w') : Rco w' base r f g q oq cq n sm cnt v0 p5 c5 :=
  ⟨h.lr.keep k id, h.fe.keep0 k, h.fl.keep k (fun _ _ => id), h.ne, h.b⟩

set_option maxRecDepth 100000 in
set_option maxHeartbeats 3200000 in
theorem recNew (n : Nat) (sm : Int) (b o c b5 o5 c5 : Nat) (w : World) (h0 : w.cell? ⟨b, o, none⟩ = some (.int .i64 0)) (h1 : w.cell? ⟨b, o + 1, none⟩ = some (.int .i64 1)) (hc : 2 ≤ c) (hn : (n : Int) ≤ 400) (h5 : w.cell? ⟨b5, o5, none⟩ = some (.int .i64 5)) (hc5 : 1 ≤ c5) :
    Calls Tryd.prog 27 #[.int .i64 2, .agg (blobA (bF n sm) (.slice (some ⟨b, o, none⟩) 2 c)), .agg (rcdA (.slice (some ⟨b5, o5, none⟩) 1 c5))] w fun e w' => ∃ r f g q oq cq p9 c9, e = .returned (.tuple #[.pointer (some ⟨r, 0, none⟩), .int .i64 0]) ∧ Kp (fun _ => False) w w' ∧ Rco w' w.heap.size r f g q oq cq n sm 0 (.slice none 0 0) p9 c9 ∧ Exa w' f g := by
  have hfl5 : ∀ z, Kp (fun _ => False) w z → Fl z (fun x => x = b5) (some ⟨b5, o5, none⟩) (([5] : List Int).map encI) := fun z k j u hu => by
    match j with
    | 0 => simp at hu; subst hu; exact ⟨b5, o5, rfl, rfl, k.cellv h5 id⟩
    | j + 1 => simp at hu
  have HNF : Hid (∀ z, Kp (fun _ => False) w z → Calls _ _ _ z _) := fun z k => newFetch2 n sm b o c z (k.cellv h0 id) (k.cellv h1 id) hc hn
  have HI : Hid (∀ z, Calls Tryd.prog 48 #[.int .i64 2] z fun e w' => e = .returned (.bool true) ∧ w' = z) := fun z => isNode_ok 2 z
  have HFi : Hid (∀ z, Kp (fun _ => False) w z → Calls Tryd.prog 57 #[.agg #[.int .i64 1, .int .i64 0], .int .i64 (n : Int), .slice (some ⟨b5, o5, none⟩) 1 c5] z fun e w' => e = .returned (.bool true) ∧ Kp (fun _ => False) z w') := fun z k => fit_yes 1 0 n 1 _ c5 _ [5] z (by decide) (by decide) hn (hfl5 z k) ⟨rfl, rfl⟩ nds5 hc5
  have HCl : Hid (∀ z, Kp (fun _ => False) w z → Calls Tryd.prog 58 #[.agg (rcdA (.slice (some ⟨b5, o5, none⟩) 1 c5))] z fun e w' => ∃ q cq, e = .returned (.agg (rcdA (.slice q 1 cq))) ∧ Kp (fun _ => False) z w' ∧ Fl w' (fun b => z.heap.size ≤ b ∧ b < w'.heap.size) q (([5] : List Int).map encI)) := fun z k => cloneRcd_ok _ _ c5 [5] z (hfl5 z k) (by show _ ≤ _; decide)
  have k0 : Kp (fun _ => False) w ((w.alloc (.cells (blobA (bF n sm) (.slice (some ⟨b, o, none⟩) 2 c)) 33)).alloc (.cells (rcdA (.slice (some ⟨b5, o5, none⟩) 1 c5)) 66)) := ((Kp.refl _ _).alloc _).alloc _
  have HLb : Hid (Lv ((w.alloc (.cells (blobA (bF n sm) (.slice (some ⟨b, o, none⟩) 2 c)) 33)).alloc (.cells (rcdA (.slice (some ⟨b5, o5, none⟩) 1 c5)) 66)) w.heap.size (blobA (bF n sm) (.slice (some ⟨b, o, none⟩) 2 c)).toList) := (Lv.new w _ _).keep ((Kp.refl (fun _ => False) _).alloc _) id
  have HLr : Hid (Lv ((w.alloc (.cells (blobA (bF n sm) (.slice (some ⟨b, o, none⟩) 2 c)) 33)).alloc (.cells (rcdA (.slice (some ⟨b5, o5, none⟩) 1 c5)) 66)) (w.heap.size + 1) (rcdA (.slice (some ⟨b5, o5, none⟩) 1 c5)).toList) := by
    have hh := Lv.new (w.alloc (.cells (blobA (bF n sm) (.slice (some ⟨b, o, none⟩) 2 c)) 33)) (rcdA (.slice (some ⟨b5, o5, none⟩) 1 c5)) 66
    rw [show (w.alloc (.cells (blobA (bF n sm) (.slice (some ⟨b, o, none⟩) 2 c)) 33)).heap.size = w.heap.size + 1 by simp] at hh
    exact hh
  obtain ⟨ba, hba⟩ : ∃ ba : Array Value, ba = blobA (bF n sm) (.slice (some ⟨b, o, none⟩) 2 c) := ⟨_, rfl⟩
  obtain ⟨ra, hra⟩ : ∃ ra : Array Value, ra = rcdA (.slice (some ⟨b5, o5, none⟩) 1 c5) := ⟨_, rfl⟩
  have HBA : Hid (ba = blobA (bF n sm) (.slice (some ⟨b, o, none⟩) 2 c)) := hba
  have HRA : Hid (ra = rcdA (.slice (some ⟨b5, o5, none⟩) 1 c5)) := hra
  rw [← hba] at HNF
  rw [← hra] at HCl
  rw [← hba, ← hra] at k0 HLb HLr ⊢
  clear h0 h1 hc hn h5 hc5 hfl5 hba hra
  go_enter Tryd.func27, Tryd.ntmps27
  go_wp2_with (refine wpList_load_all rfl 33 _ rfl 6 w.heap.size ba.toList rfl HLb.out dsBlob szBlob (by rw [HBA.out]; rfl) ?_; rw [Array.toArray_toList])
  refine (HNF.out _ k0).mono ?_
  rintro e w1 ⟨f, q, oq, cq, g, rfl, k1, hf, hq, hg, fe, ex⟩
  have HEX : Hid (Exa w1 f g) := ex
  clear ex
  have hs0 := k0.size
  have lb := HLb.out.keep k1 id
  have lr := HLr.out.keep k1 id
  have HLr1 : Hid (∀ z, Kp (fun _ => False) w1 z → Lv z (w.heap.size + 1) ra.toList) := fun z k => lr.keep k id
  have HLb1 : Hid (∀ z, Kp (fun _ => False) w1 z → Lv z w.heap.size ba.toList) := fun z k => lb.keep k id
  have HK1 : Hid (Kp (fun _ => False) w w1) := k0.trans k1 (fun _ _ e => e)
  have HFe : Hid (Fe2 w1 f g q oq cq n sm 0 (.slice none 0 0) ∧ w.heap.size ≤ f ∧ w.heap.size ≤ q ∧ w.heap.size ≤ g) := ⟨fe, by omega, by omega, by omega⟩
  rw [HBA.out] at lb
  rw [HRA.out] at lr
  have b0 := lb.cell (j := 0) rfl
  have b1 := lb.cell (j := 1) rfl
  have r0 := lr.cell (j := 0) rfl
  have r2 := lr.cell (j := 2) rfl
  have r3 := lr.cell (j := 3) rfl
  have r4 := lr.cell (j := 4) rfl
  clear lb lr k0 k1 HLb HLr HNF fe hf hq hg hs0
  go_wp2_with (first
    | (go_at_call 48; refine (HI.out _).mono ?_; rintro e w2 ⟨rfl, hw2⟩; obtain rfl := hw2.symm)
    | (go_at_call 57; refine (HFi.out _ HK1.out).mono ?_; rintro e w2 ⟨rfl, k2⟩; have HK2 : Hid (Kp (fun _ => False) w1 w2) := k2; have r0' := k2.cellv r0 id; have b0' := k2.cellv b0 id; clear k2)
    | (refine wpList_load_all rfl 66 _ rfl 5 (w.heap.size + 1) ra.toList rfl (HLr1.out _ HK2.out) dsRcd szRcd (by rw [HRA.out]; rfl) ?_; rw [Array.toArray_toList])
    | (go_at_call 58; refine (HCl.out _ (HK1.out.trans HK2.out (fun _ _ e => e))).mono ?_; rintro e w3 ⟨p9, c9, rfl, k3, hfl⟩; have HK3 : Hid (Kp (fun _ => False) w2 w3) := k3; have HFl : Hid (Fl w3 (fun b => w2.heap.size ≤ b ∧ b < w3.heap.size) p9 (([5] : List Int).map encI)) := hfl; clear k3 hfl))
  go_ret2
  have ka : Kp (fun _ => False) w3 (w3.alloc (.cells #[.int .i64 1, .int .i64 2, .int .i64 4, .int .i64 6, .int .i64 1, .int .i64 0, .slice p9 1 c9, .pointer (some ⟨f, 0, none⟩), .pointer none] 75)) := (Kp.refl _ _).alloc _
  have hl : Lv (w3.alloc (.cells #[.int .i64 1, .int .i64 2, .int .i64 4, .int .i64 6, .int .i64 1, .int .i64 0, .slice p9 1 c9, .pointer (some ⟨f, 0, none⟩), .pointer none] 75)) w3.heap.size (recA 1 2 (.slice p9 1 c9) (.pointer (some ⟨f, 0, none⟩)) (.pointer none)) := Lv.new w3 _ _
  have k13 := HK2.out.trans HK3.out (fun _ _ e => e)
  obtain ⟨fe, hf, hq, hg⟩ := HFe.out
  have hlt := fe.lt
  have h1 := HK1.out.size
  have h2 := HK2.out.size
  have h3 := HK3.out.size
  exact ⟨w3.heap.size, f, g, q, oq, cq, p9, c9, rfl, (HK1.out.trans k13 (fun _ _ e => e)).trans ka (fun _ _ e => e), ⟨hl, (fe.keep0 k13).keep0 ka, (HFl.out.keep ka (fun _ _ => id)).mono (fun b hb => by omega), by omega, by omega⟩, HEX.out.keep (k13.trans ka (fun _ _ e => e)) hlt.1 hlt.2.1⟩

set_option maxRecDepth 100000 in
set_option maxHeartbeats 800000 in
theorem rphase (r : Nat) (ph : Int) (w : World) (h : w.cell? ⟨r, 0, none⟩ = some (.int .i64 ph)) : Calls Tryd.prog 29 #[.pointer (some ⟨r, 0, none⟩)] w fun e w' => e = .returned (.int .i64 ph) ∧ w' = w := by
  go_enter Tryd.func29, Tryd.ntmps29
  go_wp2
  go_ret
  exact ⟨rfl, rfl⟩
set_option maxRecDepth 100000 in
set_option maxHeartbeats 800000 in
theorem sdone (sp : Nat) (G : Int) (w : World) (h : w.cell? ⟨sp, 3, none⟩ = some (.int .i64 G)) : Calls Tryd.prog 99 #[.pointer (some ⟨sp, 0, none⟩)] w fun e w' => e = .returned (.bool (G == 0)) ∧ w' = w := by
  go_enter Tryd.func99, Tryd.ntmps99
  go_wp2
  go_ret
  exact ⟨rfl, rfl⟩
end Go.Proofs.YtmncocmeafcpfaaDoor
