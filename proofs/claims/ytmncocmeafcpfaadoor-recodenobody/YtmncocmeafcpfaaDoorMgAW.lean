/- Texts of this proof, joined: Ra3, Ra4, Ra5, Rk1. -/
import Derived.Test.YtmncocmeafcpfaaDoorMgAV
import Derived.Test.YtmncocmeafcpfaaDoorMgAS
/- recode.New of a blob of two shards (laid by scripts/mkrd.py). -/
namespace Go.Proofs.YtmncocmeafcpfaaDoor
set_option linter.unusedVariables false
set_option linter.unusedSimpArgs false
open Go.RowKit Go.Deep

abbrev zeroR : Array Value := #[.int .i64 0, .int .i64 0, .int .i64 0, .int .i64 0, .slice none 0 0]
theorem rcd_one {v : Value} (hv : v.oneCell' = true) : (rcdA v).toList.toArray.all (·.oneCell') = true := all_oneCell_toArray (fun x hx => by
  simp only [List.mem_cons, List.not_mem_nil, or_false] at hx
  rcases hx with rfl | rfl | rfl | rfl | rfl <;> first | rfl | exact hv)

set_option maxRecDepth 100000 in
set_option maxHeartbeats 1600000 in
theorem cloneRcd_ok (Z : Nat → Prop) (p : Option Addr) (cap : Nat) (zs : List Int) (w : World) (h : Fl w Z p (zs.map encI)) (hn : Hid (zs.length * 8 ≤ 140737488355328)) :
    Calls Tryd.prog 58 #[.agg (rcdA (.slice p zs.length cap))] w fun e w' => ∃ q cq, e = .returned (.agg (rcdA (.slice q zs.length cq))) ∧ Kp (fun _ => False) w w' ∧ Fl w' (fun b => w.heap.size ≤ b ∧ b < w'.heap.size) q (zs.map encI) := by
  have H : Hid (∀ u, Kp (fun _ => False) w u → Calls _ _ _ u _) := fun u k => clone_ints Z p cap zs u (h.keep k (fun _ _ => id)) hn
  obtain ⟨n, hnn⟩ : ∃ n, n = zs.length := ⟨_, rfl⟩
  have HNN : Hid (n = zs.length) := hnn
  rw [← hnn] at H ⊢
  clear h hn hnn
  go_enter Tryd.func58, Tryd.ntmps58
  go_wp2_with fail
  obtain ⟨u, hu⟩ : ∃ x, x = (w.alloc (.cells (rcdA (.slice p n cap)) 66)).alloc (.cells zeroR 66) := ⟨_, rfl⟩
  have z1 : (w.alloc (.cells (rcdA (.slice p n cap)) 66)).heap.size = w.heap.size + 1 := by simp
  have HL1 : Hid (Lv u w.heap.size (rcdA (.slice p n cap)).toList) := by rw [hu]; exact (Lv.new w _ _).keep ((Kp.refl (fun _ => False) _).alloc _) id
  have HL2 : Hid (Lv u (w.heap.size + 1) zeroR.toList) := by rw [hu, ← z1]; exact Lv.new _ _ _
  have k0 : Kp (fun _ => False) w u := by rw [hu]; exact ((Kp.refl _ _).alloc _).alloc _
  have e0 : (w.alloc (.cells (rcdA (.slice p n cap)) 66)).alloc (.cells zeroR 66) = u := hu.symm
  rw [show ((w.alloc (.cells (rcdA (.slice p n cap)) 66)).alloc (.cells #[.int .i64 0, .int .i64 0, .int .i64 0, .int .i64 0, .slice none 0 0] 66)) = u from e0]
  clear e0 hu z1
  obtain ⟨g, hg⟩ : ∃ g, g = w.heap.size := ⟨_, rfl⟩
  obtain ⟨r, hr⟩ : ∃ r, r = w.heap.size + 1 := ⟨_, rfl⟩
  rw [← hg] at HL1
  rw [← hr] at HL2
  rw [← hr, ← hg]
  have HGR : Hid (w.heap.size ≤ g ∧ w.heap.size ≤ r ∧ g ≠ r ∧ g < u.heap.size ∧ r < u.heap.size) := by
    show _ ∧ _
    have h1 := HL1.out.lt (by simp)
    have h2 := HL2.out.lt (by decide)
    omega
  clear hg hr
  refine (H.out u k0).mono ?_
  rintro e w1 ⟨v, rfl, k1, hown⟩
  obtain ⟨q, cq, rfl, hfl⟩ := own_fl hown
  have HFl : Hid (Fl w1 (fun b => u.heap.size ≤ b ∧ b < w1.heap.size) q (zs.map encI)) := hfl
  have HL1a : Hid (Lv w1 g (rcdA (.slice p n cap)).toList) := HL1.out.keep k1 id
  have HL2a : Hid (Lv w1 r zeroR.toList) := HL2.out.keep k1 id
  have c4 : w1.cell? ⟨g, 4, none⟩ = some (.slice p n cap) := HL1a.out.cell (j := 4) rfl
  have f4 : w1.frozen? ⟨g, 4, none⟩ = false := HL1a.out.fz (show 4 < 5 by omega)
  have HF : Hid (Lv (w1.setCell ⟨g, 4, none⟩ (.slice q n cq)) g (rcdA (.slice q n cq)).toList ∧ Lv (w1.setCell ⟨g, 4, none⟩ (.slice q n cq)) r zeroR.toList ∧ Kp (fun b => b = g) w1 (w1.setCell ⟨g, 4, none⟩ (.slice q n cq))) := by
    have ks : Kp (fun b => b = g) w1 (w1.setCell ⟨g, 4, none⟩ (.slice q n cq)) := (Kp.refl (fun b => b = g) w1).setCell (fun _ => rfl) _
    exact ⟨HL1a.out.set1 4 _ (show 4 < 5 by omega), HL2a.out.keep ks (fun e => HGR.out.2.2.1 e.symm), ks⟩
  have HO : Hid ((rcdA (.slice q n cq)).toList.toArray.all (·.oneCell') = true) := rcd_one rfl
  clear HL1 HL2 H hown hfl
  go_wp2_with (first
    | (refine wpList_load_all rfl 66 _ rfl 5 g (rcdA (.slice q n cq)).toList rfl HF.out.1 dsRcd szRcd rfl ?_)
    | (refine wpList_store_all rfl 66 _ _ rfl 5 r zeroR.toList (rcdA (.slice q n cq)).toList rfl rfl HF.out.2.1 szRcd rfl rfl HO.out ?_; intro w3 hl3 k3))
  refine bodyPost_ret (res_cell Tryd.results58 _ _ r _ rfl (hl3.load dsRcd szRcd rfl)) rfl ?_
  have kk : Kp (fun b => b = g ∨ b = r) w1 w3 := (HF.out.2.2.mono (fun _ _ e => Or.inl e)).trans k3 (fun _ _ e => Or.inr e)
  refine ⟨q, ⟨cq, rfl⟩, (k0.trans k1 (fun _ _ e => e)).trans kk (fun b hb e => by have := HGR.out; omega), ?_⟩
  refine (HFl.out.keep kk (fun b hb e => by have := HGR.out; omega)).mono (fun b hb => ⟨Nat.le_trans k0.size hb.1, Nat.lt_of_lt_of_le hb.2 kk.size⟩)

theorem nds5 : Nds [5] := ⟨by decide, fun i j hi hj h => by
  have h1 : i < 1 := hi
  omega⟩
/-- a recoder that fetches -/
structure Rco (w : World) (base r f g q oq cq n : Nat) (sm cnt : Int) (v0 : Value) (p5 : Option Addr) (c5 : Nat) : Prop where
  lr : Lv w r (recA 1 2 (.slice p5 1 c5) (.pointer (some ⟨f, 0, none⟩)) (.pointer none))
  fe : Fe2 w f g q oq cq n sm cnt v0
  fl : Fl w (fun b => base ≤ b ∧ b ≠ r ∧ b ≠ f ∧ b ≠ g) p5 (([5] : List Int).map encI)
  ne : r ≠ f ∧ r ≠ g ∧ r ≠ q
  b : base ≤ r ∧ base ≤ f ∧ base ≤ g ∧ base ≤ q
theorem Rco.keep0 {w w' : World} {base r f g q oq cq n : Nat} {sm cnt : Int} {v0 : Value} {p5 : Option Addr} {c5 : Nat} (h : Rco w base r f g q oq cq n sm cnt v0 p5 c5) (k : Kp (fun _ => False) w w') : Rco w' base r f g q oq cq n sm cnt v0 p5 c5 :=
  ⟨h.lr.keep k id, h.fe.keep0 k, h.fl.keep k (fun _ _ => id), h.ne, h.b⟩

set_option maxRecDepth 100000 in
set_option maxHeartbeats 3200000 in
theorem recNew (n : Nat) (sm : Int) (b o c b5 o5 c5 : Nat) (w : World) (h0 : w.cell? ⟨b, o, none⟩ = some (.int .i64 0)) (h1 : w.cell? ⟨b, o + 1, none⟩ = some (.int .i64 1)) (hc : 2 ≤ c) (hn : (n : Int) ≤ 400) (h5 : w.cell? ⟨b5, o5, none⟩ = some (.int .i64 5)) (hc5 : 1 ≤ c5) :
    Calls Tryd.prog 27 #[.int .i64 2, .agg (blobA (bF n sm) (.slice (some ⟨b, o, none⟩) 2 c)), .agg (rcdA (.slice (some ⟨b5, o5, none⟩) 1 c5))] w fun e w' => ∃ r f g q oq cq p9 c9, e = .returned (.tuple #[.pointer (some ⟨r, 0, none⟩), .int .i64 0]) ∧ Kp (fun _ => False) w w' ∧ Rco w' w.heap.size r f g q oq cq n sm 0 (.slice none 0 0) p9 c9 ∧ Exa w' f g := by
  have hfl5 : ∀ z, Kp (fun _ => False) w z → Fl z (fun x => x = b5) (some ⟨b5, o5, none⟩) (([5] : List Int).map encI) := fun z k j u hu => by
    match j with
    | 0 => simp at hu; subst hu; exact ⟨b5, o5, rfl, rfl, k.cellv h5 id⟩
    | j + 1 => simp at hu
  have HNF : Hid (∀ z, Kp (fun _ => False) w z → Calls _ _ _ z _) := fun z k => newFetch2 n sm b o c z (k.cellv h0 id) (k.cellv h1 id) hc hn
  have HI : Hid (∀ z, Calls Tryd.prog 48 #[.int .i64 2] z fun e w' => e = .returned (.bool true) ∧ w' = z) := fun z => isNode_ok 2 z
  have HFi : Hid (∀ z, Kp (fun _ => False) w z → Calls Tryd.prog 57 #[.agg #[.int .i64 1, .int .i64 0], .int .i64 (n : Int), .slice (some ⟨b5, o5, none⟩) 1 c5] z fun e w' => e = .returned (.bool true) ∧ Kp (fun _ => False) z w') := fun z k => fit_yes 1 0 n 1 _ c5 _ [5] z (by decide) (by decide) hn (hfl5 z k) ⟨rfl, rfl⟩ nds5 hc5
  have HCl : Hid (∀ z, Kp (fun _ => False) w z → Calls Tryd.prog 58 #[.agg (rcdA (.slice (some ⟨b5, o5, none⟩) 1 c5))] z fun e w' => ∃ q cq, e = .returned (.agg (rcdA (.slice q 1 cq))) ∧ Kp (fun _ => False) z w' ∧ Fl w' (fun b => z.heap.size ≤ b ∧ b < w'.heap.size) q (([5] : List Int).map encI)) := fun z k => cloneRcd_ok _ _ c5 [5] z (hfl5 z k) (by show _ ≤ _; decide)
  have k0 : Kp (fun _ => False) w ((w.alloc (.cells (blobA (bF n sm) (.slice (some ⟨b, o, none⟩) 2 c)) 33)).alloc (.cells (rcdA (.slice (some ⟨b5, o5, none⟩) 1 c5)) 66)) := ((Kp.refl _ _).alloc _).alloc _
  have HLb : Hid (Lv ((w.alloc (.cells (blobA (bF n sm) (.slice (some ⟨b, o, none⟩) 2 c)) 33)).alloc (.cells (rcdA (.slice (some ⟨b5, o5, none⟩) 1 c5)) 66)) w.heap.size (blobA (bF n sm) (.slice (some ⟨b, o, none⟩) 2 c)).toList) := (Lv.new w _ _).keep ((Kp.refl (fun _ => False) _).alloc _) id
  have HLr : Hid (Lv ((w.alloc (.cells (blobA (bF n sm) (.slice (some ⟨b, o, none⟩) 2 c)) 33)).alloc (.cells (rcdA (.slice (some ⟨b5, o5, none⟩) 1 c5)) 66)) (w.heap.size + 1) (rcdA (.slice (some ⟨b5, o5, none⟩) 1 c5)).toList) := by
    have hh := Lv.new (w.alloc (.cells (blobA (bF n sm) (.slice (some ⟨b, o, none⟩) 2 c)) 33)) (rcdA (.slice (some ⟨b5, o5, none⟩) 1 c5)) 66
    rw [show (w.alloc (.cells (blobA (bF n sm) (.slice (some ⟨b, o, none⟩) 2 c)) 33)).heap.size = w.heap.size + 1 by simp] at hh
    exact hh
  obtain ⟨ba, hba⟩ : ∃ ba : Array Value, ba = blobA (bF n sm) (.slice (some ⟨b, o, none⟩) 2 c) := ⟨_, rfl⟩
  obtain ⟨ra, hra⟩ : ∃ ra : Array Value, ra = rcdA (.slice (some ⟨b5, o5, none⟩) 1 c5) := ⟨_, rfl⟩
  have HBA : Hid (ba = blobA (bF n sm) (.slice (some ⟨b, o, none⟩) 2 c)) := hba
  have HRA : Hid (ra = rcdA (.slice (some ⟨b5, o5, none⟩) 1 c5)) := hra
  rw [← hba] at HNF
  rw [← hra] at HCl
  rw [← hba, ← hra] at k0 HLb HLr ⊢
  clear h0 h1 hc hn h5 hc5 hfl5 hba hra
  go_enter Tryd.func27, Tryd.ntmps27
  go_wp2_with (refine wpList_load_all rfl 33 _ rfl 6 w.heap.size ba.toList rfl HLb.out dsBlob szBlob (by rw [HBA.out]; rfl) ?_; rw [Array.toArray_toList])
  refine (HNF.out _ k0).mono ?_
  rintro e w1 ⟨f, q, oq, cq, g, rfl, k1, hf, hq, hg, fe, ex⟩
  have HEX : Hid (Exa w1 f g) := ex
  clear ex
  have hs0 := k0.size
  have lb := HLb.out.keep k1 id
  have lr := HLr.out.keep k1 id
  have HLr1 : Hid (∀ z, Kp (fun _ => False) w1 z → Lv z (w.heap.size + 1) ra.toList) := fun z k => lr.keep k id
  have HLb1 : Hid (∀ z, Kp (fun _ => False) w1 z → Lv z w.heap.size ba.toList) := fun z k => lb.keep k id
  have HK1 : Hid (Kp (fun _ => False) w w1) := k0.trans k1 (fun _ _ e => e)
  have HFe : Hid (Fe2 w1 f g q oq cq n sm 0 (.slice none 0 0) ∧ w.heap.size ≤ f ∧ w.heap.size ≤ q ∧ w.heap.size ≤ g) := ⟨fe, by omega, by omega, by omega⟩
  rw [HBA.out] at lb
  rw [HRA.out] at lr
  have b0 := lb.cell (j := 0) rfl
  have b1 := lb.cell (j := 1) rfl
  have r0 := lr.cell (j := 0) rfl
  have r2 := lr.cell (j := 2) rfl
  have r3 := lr.cell (j := 3) rfl
  have r4 := lr.cell (j := 4) rfl
  clear lb lr k0 k1 HLb HLr HNF fe hf hq hg hs0
  go_wp2_with (first
    | (go_at_call 48; refine (HI.out _).mono ?_; rintro e w2 ⟨rfl, hw2⟩; obtain rfl := hw2.symm)
    | (go_at_call 57; refine (HFi.out _ HK1.out).mono ?_; rintro e w2 ⟨rfl, k2⟩; have HK2 : Hid (Kp (fun _ => False) w1 w2) := k2; have r0' := k2.cellv r0 id; have b0' := k2.cellv b0 id; clear k2)
    | (refine wpList_load_all rfl 66 _ rfl 5 (w.heap.size + 1) ra.toList rfl (HLr1.out _ HK2.out) dsRcd szRcd (by rw [HRA.out]; rfl) ?_; rw [Array.toArray_toList])
    | (go_at_call 58; refine (HCl.out _ (HK1.out.trans HK2.out (fun _ _ e => e))).mono ?_; rintro e w3 ⟨p9, c9, rfl, k3, hfl⟩; have HK3 : Hid (Kp (fun _ => False) w2 w3) := k3; have HFl : Hid (Fl w3 (fun b => w2.heap.size ≤ b ∧ b < w3.heap.size) p9 (([5] : List Int).map encI)) := hfl; clear k3 hfl))
  go_ret2
  have ka : Kp (fun _ => False) w3 (w3.alloc (.cells #[.int .i64 1, .int .i64 2, .int .i64 4, .int .i64 6, .int .i64 1, .int .i64 0, .slice p9 1 c9, .pointer (some ⟨f, 0, none⟩), .pointer none] 75)) := (Kp.refl _ _).alloc _
  have hl : Lv (w3.alloc (.cells #[.int .i64 1, .int .i64 2, .int .i64 4, .int .i64 6, .int .i64 1, .int .i64 0, .slice p9 1 c9, .pointer (some ⟨f, 0, none⟩), .pointer none] 75)) w3.heap.size (recA 1 2 (.slice p9 1 c9) (.pointer (some ⟨f, 0, none⟩)) (.pointer none)) := Lv.new w3 _ _
  have k13 := HK2.out.trans HK3.out (fun _ _ e => e)
  obtain ⟨fe, hf, hq, hg⟩ := HFe.out
  have hlt := fe.lt
  have h1 := HK1.out.size
  have h2 := HK2.out.size
  have h3 := HK3.out.size
  exact ⟨w3.heap.size, f, g, q, oq, cq, p9, c9, rfl, (HK1.out.trans k13 (fun _ _ e => e)).trans ka (fun _ _ e => e), ⟨hl, (fe.keep0 k13).keep0 ka, (HFl.out.keep ka (fun _ _ => id)).mono (fun b hb => by omega), by omega, by omega⟩, HEX.out.keep (k13.trans ka (fun _ _ e => e)) hlt.1 hlt.2.1⟩

set_option maxRecDepth 100000 in
set_option maxHeartbeats 800000 in
theorem rphase (r : Nat) (ph : Int) (w : World) (h : w.cell? ⟨r, 0, none⟩ = some (.int .i64 ph)) : Calls Tryd.prog 29 #[.pointer (some ⟨r, 0, none⟩)] w fun e w' => e = .returned (.int .i64 ph) ∧ w' = w := by
  go_enter Tryd.func29, Tryd.ntmps29
  go_wp2
  go_ret
  exact ⟨rfl, rfl⟩
set_option maxRecDepth 100000 in
set_option maxHeartbeats 800000 in
theorem sdone (sp : Nat) (G : Int) (w : World) (h : w.cell? ⟨sp, 3, none⟩ = some (.int .i64 G)) : Calls Tryd.prog 99 #[.pointer (some ⟨sp, 0, none⟩)] w fun e w' => e = .returned (.bool (G == 0)) ∧ w' = w := by
  go_enter Tryd.func99, Tryd.ntmps99
  go_wp2
  go_ret
  exact ⟨rfl, rfl⟩
end Go.Proofs.YtmncocmeafcpfaaDoor

/- A recoder joins what came (laid by scripts/mkre.py). -/
namespace Go.Proofs.YtmncocmeafcpfaaDoor
set_option linter.unusedVariables false
set_option linter.unusedSimpArgs false
open Go.RowKit Go.Deep

set_option maxRecDepth 100000 in
set_option maxHeartbeats 3200000 in
theorem join_bad {w : World} {base r f g q oq cq n : Nat} {sm : Int} {p5 : Option Addr} {c5 : Nat} (ps : Option Addr) (cs : Nat) (xs : List Nat) (h : Rco w base r f g q oq cq n sm 1 (.slice ps 8 cs) p5 c5) (hx : Rb w ps 8 xs) (h1 : 1 ≤ n) (h8 : n ≤ 8) (hp : Mf.Pows w) (ht : Turns w) (HB : Hid ((((Crc.sum (xs.take n) : Nat) : Int) != sm) = true)) :
    Calls Tryd.prog 98 #[.pointer (some ⟨r, 0, none⟩)] w fun e w' => e = .returned (.tuple #[]) ∧ Kp (fun b => b = f ∨ b = g) w w' ∧ Rco w' base r f g q oq cq n sm 0 (.slice none 0 0) p5 c5 := by
  have HRC : Hid (Rco w base r f g q oq cq n sm 1 (.slice ps 8 cs) p5 c5) := h
  have HX : Hid (Rb w ps 8 xs ∧ 1 ≤ n ∧ n ≤ 8 ∧ Mf.Pows w ∧ Turns w) := ⟨hx, h1, h8, hp, ht⟩
  have HBl : Hid (∀ u, Kp (fun _ => False) w u → Calls _ _ _ u _) := fun u k => blob2 (h.fe.keep0 k)
  have HO : Hid ((blobA (bF n sm) (.slice (some ⟨q, oq, none⟩) 2 cq)).toList.toArray.all (·.oneCell') = true) := blob_one _ rfl
  have c7 := h.lr.cell (j := 7) rfl
  obtain ⟨ba, hba⟩ : ∃ ba : Array Value, ba = blobA (bF n sm) (.slice (some ⟨q, oq, none⟩) 2 cq) := ⟨_, rfl⟩
  have HBA : Hid (ba = blobA (bF n sm) (.slice (some ⟨q, oq, none⟩) 2 cq)) := hba
  rw [← hba] at HBl HO
  clear h hx h1 h8 hp ht hba
  go_enter Tryd.func98, Tryd.ntmps98
  go_wp2_with (first
    | (go_at_call 94; refine (HBl.out _ (Kp.refl _ _)).mono ?_; rintro e w1 ⟨rfl, k1⟩)
    | (refine wpList_store_all rfl 33 _ _ rfl 6 w1.heap.size zeroB.toList ba.toList rfl (by rw [Array.toArray_toList]; rfl) (by exact Lv.new w1 _ _) szBlob rfl (by rw [HBA.out]; rfl) HO.out ?_; intro z0 hl0 k2; have HZ0 : Hid (Kp (fun _ => False) w z0 ∧ Lv z0 w1.heap.size ba.toList) := ⟨k1.trans (((Kp.refl (fun _ => False) w1).alloc _).trans k2 (fun b hb e => by omega)) (fun _ _ e => e), hl0⟩; clear hl0 k2))
  obtain ⟨bx, hbx⟩ : ∃ bx, bx = w1.heap.size := ⟨_, rfl⟩
  rw [← hbx] at HZ0 ⊢
  clear hbx k1 c7 HBl HO
  have kd : Kp (fun _ => False) z0 z0.drew := (Kp.refl _ _).drew
  have dsC : ∃ d, Tryd.prog.underlying 26 = some d ∧ d.isRow = true := ⟨_, Tryd.underlying26, rfl⟩
  have szC : (Tryd.prog.info? 26).map (·.size) = some 2 := by kernel_rfl
  have HS1 : Hid (∀ z, Kp (fun _ => False) z0 z → ((loadVar 26 ⟨bx, 3, none⟩).run Tryd.prog z = .ok (.agg #[.int .i64 1, .int .i64 1]) z ∧ z.cell? ⟨bx, 1, none⟩ = some (.int .i64 (n : Int)) ∧ z.cell? ⟨r, 7, none⟩ = some (.pointer (some ⟨f, 0, none⟩))) ∧ z.cell? ⟨bx, 2, none⟩ = some (.int .u32 sm)) := fun z kz => by
    have lb := HZ0.out.2.keep kz id
    rw [HBA.out] at lb
    obtain ⟨dc, hd1, hd2⟩ := dsC
    have hr : z.rangeAt bx 3 [.int .i64 1, .int .i64 1] := fun j u hu => by
      rcases j with _ | _ | j
      · simp at hu; subst hu; exact lb.cell (j := 3) rfl
      · simp at hu; subst hu; exact lb.cell (j := 4) rfl
      · simp at hu
    exact ⟨⟨run_loadVar_mid z bx 3 _ _ dc hr hd1 hd2 (by rw [szC]; rfl), lb.cell (j := 1) rfl, ((HRC.out.keep0 HZ0.out.1).keep0 kz).lr.cell (j := 7) rfl⟩, lb.cell (j := 2) rfl⟩
  refine rj1_region ⟨by kernel_rfl, by kernel_rfl, by kernel_rfl, by kernel_rfl, by kernel_rfl, by kernel_rfl, by kernel_rfl, by kernel_rfl, by kernel_rfl, by kernel_rfl, by kernel_rfl, by kernel_rfl, by kernel_rfl, by kernel_rfl, by kernel_rfl, by kernel_rfl, by kernel_rfl, by kernel_rfl, by kernel_rfl, by kernel_rfl, by kernel_rfl, by kernel_rfl⟩ r bx f g n 0 (fun d _ _ _ _ h => by cases d <;> exact h) (by rfl) (by rfl) (by rfl) (HS1.out _ kd).1 (fun jb z => Kp (fun _ => False) z0 z ∧ Rb z (some ⟨jb, 0, none⟩) n (xs.take n)) ((came2 ((HRC.out.fe.keep0 HZ0.out.1).keep0 kd)).mono ?_) ?_
  · rintro e z ⟨rfl, hz⟩
    obtain rfl := hz.symm
    have kwd := HZ0.out.1.trans kd (fun _ _ e => e)
    refine ⟨rfl, (HS1.out _ kd).1, (join1 z0.drew g cs n ps xs (HRC.out.fe.keep0 kwd).lg (HX.out.1.keep0 kwd) HX.out.2.1 HX.out.2.2.1 (pows_keep HX.out.2.2.2.1 kwd id)).mono ?_⟩
    rintro e z2 ⟨jb, rfl, k2, hr⟩
    have k3 := kd.trans k2 (fun _ _ e => e)
    exact ⟨jb, rfl, (HS1.out _ k3).1, k3, hr⟩
  intro jb z1 hT
  simp only [Act.put, List.setIfInBounds_toArray, List.set_cons_succ, List.set_cons_zero]
  have HZ1 : Hid (Kp (fun _ => False) z0 z1 ∧ Rb z1 (some ⟨jb, 0, none⟩) n (xs.take n)) := hT
  clear hT kd
  go_wp2
  have kd : Kp (fun _ => False) z1 z1.drew := (Kp.refl _ _).drew
  have k1d := HZ1.out.1.trans kd (fun _ _ e => e)
  have kwd := HZ0.out.1.trans k1d (fun _ _ e => e)
  refine rj2_region ⟨by kernel_rfl, by kernel_rfl, by kernel_rfl, by kernel_rfl, by kernel_rfl, by kernel_rfl, by kernel_rfl, by kernel_rfl, by kernel_rfl, by kernel_rfl, by kernel_rfl⟩ bx (.slice (some ⟨jb, 0, none⟩) n n) ((Crc.sum (xs.take n) : Nat) : Int) sm true (fun d _ _ _ _ h => by cases d <;> exact h) (by rfl) (by rfl) (by rfl) ⟨(HS1.out _ k1d).2, HB.out⟩ (fun z => Kp (fun _ => False) z0 z ∧ Rb z (some ⟨jb, 0, none⟩) n (xs.take n)) ((sum_any (some ⟨jb, 0, none⟩) n n (xs.take n) _ (HZ1.out.2.keep0 kd) (by have := HX.out.2.2.1; omega) (HX.out.2.2.2.2.keep0 kwd)).mono ?_) ?_
  · rintro e z ⟨rfl, hz⟩
    obtain rfl := hz.symm
    exact ⟨rfl, ⟨(HS1.out _ k1d).2, HB.out⟩, k1d, HZ1.out.2.keep0 kd⟩
  intro z2 hT
  simp only [Act.put, List.setIfInBounds_toArray, List.set_cons_succ, List.set_cons_zero]
  have HZ2 : Hid (Kp (fun _ => False) w z2 ∧ Rb z2 (some ⟨jb, 0, none⟩) n (xs.take n)) := ⟨HZ0.out.1.trans hT.1 (fun _ _ e => e), hT.2⟩
  clear hT kd k1d kwd HZ1 HS1 HZ0
  have R2 := HRC.out.keep0 HZ2.out.1
  have c7 := R2.lr.cell (j := 7) rfl
  have HFo : Hid (Calls _ _ _ z2 _) := forget2 R2.fe
  have HR2 : Hid (Rco z2 base r f g q oq cq n sm 1 (.slice ps 8 cs) p5 c5) := R2
  clear R2
  go_wp2_with (go_at_call 116; refine HFo.out.mono ?_; rintro e z3 ⟨rfl, k3, fe3⟩)
  refine bodyPost_ret (results_none rfl _ _ _) rfl ?_
  have R2 := HR2.out
  exact ⟨rfl, (HZ2.out.1.mono (fun _ _ e => e.elim)).trans k3 (fun _ _ e => e), R2.lr.keep k3 (fun e => by have := R2.ne; omega), fe3, R2.fl.keep k3 (fun b hb e => by omega), R2.ne, R2.b⟩

set_option maxRecDepth 100000 in
set_option maxHeartbeats 3200000 in
theorem join_good {w : World} {base r f g q oq cq n : Nat} {sm : Int} {p5 : Option Addr} {c5 : Nat} (ps : Option Addr) (cs : Nat) (xs : List Nat) (h : Rco w base r f g q oq cq n sm 1 (.slice ps 8 cs) p5 c5) (hx : Rb w ps 8 xs) (h1 : 1 ≤ n) (h8 : n ≤ 8) (hp : Mf.Pows w) (ht : Turns w) (HB : Hid ((((Crc.sum (xs.take n) : Nat) : Int) != sm) = false)) :
    Calls Tryd.prog 98 #[.pointer (some ⟨r, 0, none⟩)] w fun e w' => e = .returned (.tuple #[]) ∧ Kp (fun b => b = r) w w' ∧ ∃ nv sp, Lv w' r (recA 2 2 nv (.pointer none) (.pointer (some ⟨sp, 0, none⟩))) ∧ w'.cell? ⟨sp, 3, none⟩ = some (.int .i64 1) := by
  have HRC : Hid (Rco w base r f g q oq cq n sm 1 (.slice ps 8 cs) p5 c5) := h
  have HX : Hid (Rb w ps 8 xs ∧ 1 ≤ n ∧ n ≤ 8 ∧ Mf.Pows w ∧ Turns w) := ⟨hx, h1, h8, hp, ht⟩
  have HBl : Hid (∀ u, Kp (fun _ => False) w u → Calls _ _ _ u _) := fun u k => blob2 (h.fe.keep0 k)
  have HO : Hid ((blobA (bF n sm) (.slice (some ⟨q, oq, none⟩) 2 cq)).toList.toArray.all (·.oneCell') = true) := blob_one _ rfl
  have c7 := h.lr.cell (j := 7) rfl
  obtain ⟨ba, hba⟩ : ∃ ba : Array Value, ba = blobA (bF n sm) (.slice (some ⟨q, oq, none⟩) 2 cq) := ⟨_, rfl⟩
  have HBA : Hid (ba = blobA (bF n sm) (.slice (some ⟨q, oq, none⟩) 2 cq)) := hba
  rw [← hba] at HBl HO
  clear h hx h1 h8 hp ht hba
  go_enter Tryd.func98, Tryd.ntmps98
  go_wp2_with (first
    | (go_at_call 94; refine (HBl.out _ (Kp.refl _ _)).mono ?_; rintro e w1 ⟨rfl, k1⟩)
    | (refine wpList_store_all rfl 33 _ _ rfl 6 w1.heap.size zeroB.toList ba.toList rfl (by rw [Array.toArray_toList]; rfl) (by exact Lv.new w1 _ _) szBlob rfl (by rw [HBA.out]; rfl) HO.out ?_; intro z0 hl0 k2; have HZ0 : Hid (Kp (fun _ => False) w z0 ∧ Lv z0 w1.heap.size ba.toList) := ⟨k1.trans (((Kp.refl (fun _ => False) w1).alloc _).trans k2 (fun b hb e => by omega)) (fun _ _ e => e), hl0⟩; clear hl0 k2))
  obtain ⟨bx, hbx⟩ : ∃ bx, bx = w1.heap.size := ⟨_, rfl⟩
  rw [← hbx] at HZ0 ⊢
  clear hbx k1 c7 HBl HO
  have kd : Kp (fun _ => False) z0 z0.drew := (Kp.refl _ _).drew
  have dsC : ∃ d, Tryd.prog.underlying 26 = some d ∧ d.isRow = true := ⟨_, Tryd.underlying26, rfl⟩
  have szC : (Tryd.prog.info? 26).map (·.size) = some 2 := by kernel_rfl
  have HS1 : Hid (∀ z, Kp (fun _ => False) z0 z → ((loadVar 26 ⟨bx, 3, none⟩).run Tryd.prog z = .ok (.agg #[.int .i64 1, .int .i64 1]) z ∧ z.cell? ⟨bx, 1, none⟩ = some (.int .i64 (n : Int)) ∧ z.cell? ⟨r, 7, none⟩ = some (.pointer (some ⟨f, 0, none⟩))) ∧ z.cell? ⟨bx, 2, none⟩ = some (.int .u32 sm)) := fun z kz => by
    have lb := HZ0.out.2.keep kz id
    rw [HBA.out] at lb
    obtain ⟨dc, hd1, hd2⟩ := dsC
    have hr : z.rangeAt bx 3 [.int .i64 1, .int .i64 1] := fun j u hu => by
      rcases j with _ | _ | j
      · simp at hu; subst hu; exact lb.cell (j := 3) rfl
      · simp at hu; subst hu; exact lb.cell (j := 4) rfl
      · simp at hu
    exact ⟨⟨run_loadVar_mid z bx 3 _ _ dc hr hd1 hd2 (by rw [szC]; rfl), lb.cell (j := 1) rfl, ((HRC.out.keep0 HZ0.out.1).keep0 kz).lr.cell (j := 7) rfl⟩, lb.cell (j := 2) rfl⟩
  refine rj1_region ⟨by kernel_rfl, by kernel_rfl, by kernel_rfl, by kernel_rfl, by kernel_rfl, by kernel_rfl, by kernel_rfl, by kernel_rfl, by kernel_rfl, by kernel_rfl, by kernel_rfl, by kernel_rfl, by kernel_rfl, by kernel_rfl, by kernel_rfl, by kernel_rfl, by kernel_rfl, by kernel_rfl, by kernel_rfl, by kernel_rfl, by kernel_rfl, by kernel_rfl⟩ r bx f g n 0 (fun d _ _ _ _ h => by cases d <;> exact h) (by rfl) (by rfl) (by rfl) (HS1.out _ kd).1 (fun jb z => Kp (fun _ => False) z0 z ∧ Rb z (some ⟨jb, 0, none⟩) n (xs.take n)) ((came2 ((HRC.out.fe.keep0 HZ0.out.1).keep0 kd)).mono ?_) ?_
  · rintro e z ⟨rfl, hz⟩
    obtain rfl := hz.symm
    have kwd := HZ0.out.1.trans kd (fun _ _ e => e)
    refine ⟨rfl, (HS1.out _ kd).1, (join1 z0.drew g cs n ps xs (HRC.out.fe.keep0 kwd).lg (HX.out.1.keep0 kwd) HX.out.2.1 HX.out.2.2.1 (pows_keep HX.out.2.2.2.1 kwd id)).mono ?_⟩
    rintro e z2 ⟨jb, rfl, k2, hr⟩
    have k3 := kd.trans k2 (fun _ _ e => e)
    exact ⟨jb, rfl, (HS1.out _ k3).1, k3, hr⟩
  intro jb z1 hT
  simp only [Act.put, List.setIfInBounds_toArray, List.set_cons_succ, List.set_cons_zero]
  have HZ1 : Hid (Kp (fun _ => False) z0 z1 ∧ Rb z1 (some ⟨jb, 0, none⟩) n (xs.take n)) := hT
  clear hT kd
  go_wp2
  have kd : Kp (fun _ => False) z1 z1.drew := (Kp.refl _ _).drew
  have k1d := HZ1.out.1.trans kd (fun _ _ e => e)
  have kwd := HZ0.out.1.trans k1d (fun _ _ e => e)
  refine rj2_region ⟨by kernel_rfl, by kernel_rfl, by kernel_rfl, by kernel_rfl, by kernel_rfl, by kernel_rfl, by kernel_rfl, by kernel_rfl, by kernel_rfl, by kernel_rfl, by kernel_rfl⟩ bx (.slice (some ⟨jb, 0, none⟩) n n) ((Crc.sum (xs.take n) : Nat) : Int) sm false (fun d _ _ _ _ h => by cases d <;> exact h) (by rfl) (by rfl) (by rfl) ⟨(HS1.out _ k1d).2, HB.out⟩ (fun z => Kp (fun _ => False) z0 z ∧ Rb z (some ⟨jb, 0, none⟩) n (xs.take n)) ((sum_any (some ⟨jb, 0, none⟩) n n (xs.take n) _ (HZ1.out.2.keep0 kd) (by have := HX.out.2.2.1; omega) (HX.out.2.2.2.2.keep0 kwd)).mono ?_) ?_
  · rintro e z ⟨rfl, hz⟩
    obtain rfl := hz.symm
    exact ⟨rfl, ⟨(HS1.out _ k1d).2, HB.out⟩, k1d, HZ1.out.2.keep0 kd⟩
  intro z2 hT
  simp only [Act.put, List.setIfInBounds_toArray, List.set_cons_succ, List.set_cons_zero]
  have HZ2 : Hid (Kp (fun _ => False) w z2 ∧ Rb z2 (some ⟨jb, 0, none⟩) n (xs.take n)) := ⟨HZ0.out.1.trans hT.1 (fun _ _ e => e), hT.2⟩
  clear hT kd k1d kwd HZ1 HS1 HZ0
  have R2 := HRC.out.keep0 HZ2.out.1
  have c7 := R2.lr.cell (j := 7) rfl
  have c4 := R2.lr.cell (j := 4) rfl
  have c5' := R2.lr.cell (j := 5) rfl
  have HCut : Hid (Calls Tryd.prog 101 #[.agg #[.int .i64 1, .int .i64 0], .slice (some ⟨jb, 0, none⟩) n n] z2 fun e w' => ∃ t, e = .returned (.tuple #[.slice (some ⟨t, 0, none⟩) 1 1, .int .i64 0]) ∧ Kp (fun _ => False) z2 w') := (cut_ok 1 0 n n _ (xs.take n) z2 HZ2.out.2 (by decide) (by decide) (by have := HX.out.2.2.1; omega) (pows_keep HX.out.2.2.2.1 HZ2.out.1 id)).mono fun e w' hh => by
    obtain ⟨t, B, he, hk, _⟩ := hh
    exact ⟨t, he, hk⟩
  have HR2 : Hid (Rco z2 base r f g q oq cq n sm 1 (.slice ps 8 cs) p5 c5) := R2
  clear R2 c7
  go_wp2_with (go_at_call 101; refine HCut.out.mono ?_; rintro e z3 ⟨t, rfl, k3⟩)
  have R3 := HR2.out.keep0 k3
  have HZ3 : Hid (Kp (fun _ => False) w z3) := HZ2.out.1.trans k3 (fun _ _ e => e)
  clear c4 c5' HCut HR2 k3
  have kd : Kp (fun _ => False) z3 z3.drew := (Kp.refl _ _).drew
  have Rd := R3.keep0 kd
  have hns := newStore_ok 6 1 c5 t 1 p5 _ [5] z3.drew Rd.fl rfl (by decide)
  refine rj5_region ⟨by kernel_rfl, by kernel_rfl, by kernel_rfl, by kernel_rfl, by kernel_rfl, by kernel_rfl, by kernel_rfl, by kernel_rfl, by kernel_rfl, by kernel_rfl, by kernel_rfl, by kernel_rfl, by kernel_rfl, by kernel_rfl, by kernel_rfl, by kernel_rfl, by kernel_rfl, by kernel_rfl, by kernel_rfl, by kernel_rfl, by kernel_rfl, by kernel_rfl, by kernel_rfl⟩ r t 1 1 c5 0 p5 (fun d _ _ _ _ h => by cases d <;> exact h) (by rfl) (by rfl) (by rfl) ⟨Rd.lr.cell (j := 3) rfl, Rd.lr.cell (j := 6) rfl⟩ (fun sp z => Kp (fun b => b = r) w z ∧ Lv z r (recA 1 2 (.slice p5 1 c5) (.pointer (some ⟨f, 0, none⟩)) (.pointer (some ⟨sp, 0, none⟩))) ∧ z.cell? ⟨sp, 3, none⟩ = some (.int .i64 1) ∧ r ≠ sp) (hns.mono ?_) ?_
  · rintro e z ⟨sp, q2, c2, rfl, kz, hsp, hsp2, lsp, _⟩
    have Rz := Rd.keep0 kz
    have hrl : r < z3.drew.heap.size := Rd.lr.lt (by simp)
    have ks : Kp (fun b => b = r) z (z.setCell ⟨r, 8, none⟩ (.pointer (some ⟨sp, 0, none⟩))) := (Kp.refl (fun b => b = r) z).setCell (fun _ => rfl) _
    have hl8 : Lv (z.setCell ⟨r, 8, none⟩ (.pointer (some ⟨sp, 0, none⟩))) r (recA 1 2 (.slice p5 1 c5) (.pointer (some ⟨f, 0, none⟩)) (.pointer (some ⟨sp, 0, none⟩))) := Rz.lr.set1 8 _ (by simp)
    refine ⟨sp, .pointer none, rfl, ⟨Rz.lr.cell (j := 3) rfl, Rz.lr.cell (j := 6) rfl⟩, ⟨hl8.cell (j := 3) rfl, hl8.cell (j := 6) rfl⟩, Rz.lr.cell (j := 8) rfl, Rz.lr.fz (j := 8) (by simp), ((HZ3.out.trans (kd.trans kz (fun _ _ e => e)) (fun _ _ e => e)).mono (fun _ _ e => e.elim)).trans ks (fun _ _ e => e), hl8, ?_, by omega⟩
    exact ks.cellv (lsp.cell (j := 3) rfl) (fun e => by have e' : sp = r := e; omega)
  intro sp z4 hT
  simp only [Act.put, List.setIfInBounds_toArray, List.set_cons_succ, List.set_cons_zero]
  obtain ⟨y, hy⟩ : ∃ y, y = z4.setCell ⟨r, 8, none⟩ (.pointer (some ⟨sp, 0, none⟩)) := ⟨_, rfl⟩
  rw [← hy] at hT ⊢
  obtain ⟨kwy, ly, csp, hne⟩ := hT
  have c0 := ly.cell (j := 0) rfl
  have f0 := ly.fz (j := 0) (by simp)
  have c7 := ly.cell (j := 7) rfl
  have f7 := ly.fz (j := 7) (by simp)
  have HF : Hid (Kp (fun b => b = r) w ((y.setCell ⟨r, 0, none⟩ (.int .i64 2)).setCell ⟨r, 7, none⟩ (.pointer none)) ∧ Lv ((y.setCell ⟨r, 0, none⟩ (.int .i64 2)).setCell ⟨r, 7, none⟩ (.pointer none)) r (recA 2 2 (.slice p5 1 c5) (.pointer none) (.pointer (some ⟨sp, 0, none⟩))) ∧ ((y.setCell ⟨r, 0, none⟩ (.int .i64 2)).setCell ⟨r, 7, none⟩ (.pointer none)).cell? ⟨sp, 3, none⟩ = some (.int .i64 1)) := by
    have l1 : Lv (y.setCell ⟨r, 0, none⟩ (.int .i64 2)) r (recA 2 2 (.slice p5 1 c5) (.pointer (some ⟨f, 0, none⟩)) (.pointer (some ⟨sp, 0, none⟩))) := ly.set1 0 _ (by simp)
    have ks : Kp (fun b => b = r) y ((y.setCell ⟨r, 0, none⟩ (.int .i64 2)).setCell ⟨r, 7, none⟩ (.pointer none)) := ((Kp.refl (fun b => b = r) y).setCell (fun _ => rfl) _).setCell (fun _ => rfl) _
    exact ⟨kwy.trans ks (fun _ _ e => e), l1.set1 7 _ (by simp), ks.cellv csp (fun e => hne e.symm)⟩
  clear hy kwy ly csp hne R3 Rd kd hns
  go_wp2
  go_end0
  exact ⟨rfl, HF.out.1, .slice p5 1 c5, sp, HF.out.2.1, HF.out.2.2⟩
end Go.Proofs.YtmncocmeafcpfaaDoor

/- A recoder goes on; On (laid by scripts/mkrf.py). -/
namespace Go.Proofs.YtmncocmeafcpfaaDoor
set_option linter.unusedVariables false
set_option linter.unusedSimpArgs false
open Go.RowKit Go.Deep

set_option maxRecDepth 100000 in
set_option maxHeartbeats 1600000 in
theorem goOn_bad {w : World} {base r f g q oq cq n : Nat} {sm : Int} {p5 : Option Addr} {c5 : Nat} (ps : Option Addr) (cs : Nat) (xs : List Nat) (h : Rco w base r f g q oq cq n sm 1 (.slice ps 8 cs) p5 c5) (hx : Rb w ps 8 xs) (h1 : 1 ≤ n) (h8 : n ≤ 8) (hp : Mf.Pows w) (ht : Turns w) (HB : Hid ((((Crc.sum (xs.take n) : Nat) : Int) != sm) = true)) :
    Calls Tryd.prog 62 #[.pointer (some ⟨r, 0, none⟩)] w fun e w' => e = .returned (.tuple #[]) ∧ Kp (fun b => b = f ∨ b = g) w w' ∧ Rco w' base r f g q oq cq n sm 0 (.slice none 0 0) p5 c5 := by
  have HE : Hid (Calls Tryd.prog 92 #[.pointer (some ⟨f, 0, none⟩)] w fun e w' => e = .returned (.bool true) ∧ Kp (fun _ => False) w w') := (enough2 h.fe).mono fun e w' hh => ⟨hh.1, hh.2⟩
  have HJ : Hid (∀ u, Kp (fun _ => False) w u → Calls _ _ _ u _) := fun u k => join_bad ps cs xs (h.keep0 k) (hx.keep0 k) h1 h8 (pows_keep hp k id) (ht.keep0 k) HB
  have c0 := h.lr.cell (j := 0) rfl
  have c7 := h.lr.cell (j := 7) rfl
  clear h hx h1 h8 hp ht HB
  go_enter Tryd.func62, Tryd.ntmps62
  go_wp2
  go_step3
  go_wp2
  go_step3
  go_wp2
  go_loopg [2, 17] 1 (fun gk fa fb wr => (gk = 1 ∧ wr = w) ∨ (gk = 0 ∧ Kp (fun b => b = f ∨ b = g) w wr ∧ Rco wr base r f g q oq cq n sm 0 (.slice none 0 0) p5 c5))
  case atStart => exact Or.inl ⟨rfl, rfl⟩
  case round =>
    rcases hrel with ⟨rfl, hw⟩ | ⟨rfl, hr⟩
    · obtain rfl := hw.symm
      go_wp2_with (first
        | (go_at_call 92; refine HE.out.mono ?_; rintro e w1 ⟨rfl, k1⟩)
        | (go_at_call 98; refine (HJ.out _ k1).mono ?_; rintro e w2 ⟨rfl, k2, hj⟩))
      have HN : Hid (Kp (fun b => b = f ∨ b = g) w w2 ∧ Rco w2 base r f g q oq cq n sm 0 (.slice none 0 0) p5 c5) := ⟨(k1.mono (fun _ _ e => e.elim)).trans k2 (fun _ _ e => e), hj⟩
      clear k1 k2 hj
      go_roundg 0
      case rel => exact Or.inr ⟨rfl, HN.out⟩
      case measure => omega
    · have HE2 : Hid (Calls Tryd.prog 92 #[.pointer (some ⟨f, 0, none⟩)] wr fun e w' => e = .returned (.bool false) ∧ Kp (fun _ => False) wr w') := (enough2 hr.2.fe).mono fun e w' hh => ⟨hh.1, hh.2⟩
      have d0 := hr.2.lr.cell (j := 0) rfl
      have d7 := hr.2.lr.cell (j := 7) rfl
      have HN : Hid (Kp (fun b => b = f ∨ b = g) w wr ∧ Rco wr base r f g q oq cq n sm 0 (.slice none 0 0) p5 c5) := hr
      clear hr c0 c7
      go_wp2_with (go_at_call 92; refine HE2.out.mono ?_; rintro e w1 ⟨rfl, k1⟩; have x0 := k1.cellv d0 id)
      try rw [Exit.noGoto_normal]
      go_end0
      exact ⟨rfl, HN.out.1.trans k1 (fun _ _ e => e.elim), HN.out.2.keep0 k1⟩

set_option maxRecDepth 100000 in
set_option maxHeartbeats 1600000 in
theorem goOn_good {w : World} {base r f g q oq cq n : Nat} {sm : Int} {p5 : Option Addr} {c5 : Nat} (ps : Option Addr) (cs : Nat) (xs : List Nat) (h : Rco w base r f g q oq cq n sm 1 (.slice ps 8 cs) p5 c5) (hx : Rb w ps 8 xs) (h1 : 1 ≤ n) (h8 : n ≤ 8) (hp : Mf.Pows w) (ht : Turns w) (HB : Hid ((((Crc.sum (xs.take n) : Nat) : Int) != sm) = false)) :
    Calls Tryd.prog 62 #[.pointer (some ⟨r, 0, none⟩)] w fun e w' => e = .returned (.tuple #[]) ∧ Kp (fun b => b = r) w w' ∧ ∃ nv sp, Lv w' r (recA 2 2 nv (.pointer none) (.pointer (some ⟨sp, 0, none⟩))) ∧ w'.cell? ⟨sp, 3, none⟩ = some (.int .i64 1) := by
  have HE : Hid (Calls Tryd.prog 92 #[.pointer (some ⟨f, 0, none⟩)] w fun e w' => e = .returned (.bool true) ∧ Kp (fun _ => False) w w') := (enough2 h.fe).mono fun e w' hh => ⟨hh.1, hh.2⟩
  have HJ : Hid (∀ u, Kp (fun _ => False) w u → Calls _ _ _ u _) := fun u k => join_good ps cs xs (h.keep0 k) (hx.keep0 k) h1 h8 (pows_keep hp k id) (ht.keep0 k) HB
  have c0 := h.lr.cell (j := 0) rfl
  have c7 := h.lr.cell (j := 7) rfl
  clear h hx h1 h8 hp ht HB
  go_enter Tryd.func62, Tryd.ntmps62
  go_wp2
  go_step3
  go_wp2
  go_step3
  go_wp2
  go_loopg [2, 17] 1 (fun gk fa fb wr => (gk = 1 ∧ wr = w) ∨ (gk = 0 ∧ Kp (fun b => b = r) w wr ∧ ∃ nv sp, Lv wr r (recA 2 2 nv (.pointer none) (.pointer (some ⟨sp, 0, none⟩))) ∧ wr.cell? ⟨sp, 3, none⟩ = some (.int .i64 1)))
  case atStart => exact Or.inl ⟨rfl, rfl⟩
  case round =>
    rcases hrel with ⟨rfl, hw⟩ | ⟨rfl, hr⟩
    · obtain rfl := hw.symm
      go_wp2_with (first
        | (go_at_call 92; refine HE.out.mono ?_; rintro e w1 ⟨rfl, k1⟩)
        | (go_at_call 98; refine (HJ.out _ k1).mono ?_; rintro e w2 ⟨rfl, k2, hj⟩))
      have HN : Hid (Kp (fun b => b = r) w w2 ∧ ∃ nv sp, Lv w2 r (recA 2 2 nv (.pointer none) (.pointer (some ⟨sp, 0, none⟩))) ∧ w2.cell? ⟨sp, 3, none⟩ = some (.int .i64 1)) := ⟨(k1.mono (fun _ _ e => e.elim)).trans k2 (fun _ _ e => e), hj⟩
      clear k1 k2 hj
      go_roundg 0
      case rel => exact Or.inr ⟨rfl, HN.out⟩
      case measure => omega
    · obtain ⟨kr, nv, sp, lr, csp⟩ := hr
      have HD : Hid (Calls Tryd.prog 99 #[.pointer (some ⟨sp, 0, none⟩)] wr fun e w' => e = .returned (.bool false) ∧ w' = wr) := sdone sp 1 wr csp
      have d0 := lr.cell (j := 0) rfl
      have d8 := lr.cell (j := 8) rfl
      have HN : Hid (Kp (fun b => b = r) w wr ∧ ∃ nv sp, Lv wr r (recA 2 2 nv (.pointer none) (.pointer (some ⟨sp, 0, none⟩))) ∧ wr.cell? ⟨sp, 3, none⟩ = some (.int .i64 1)) := ⟨kr, nv, sp, lr, csp⟩
      clear kr lr csp c0 c7
      go_wp2_with (go_at_call 99; refine HD.out.mono ?_; rintro e w1 ⟨rfl, hw1⟩; obtain rfl := hw1.symm)
      try rw [Exit.noGoto_normal]
      go_end0
      exact ⟨rfl, HN.out⟩

set_option maxRecDepth 100000 in
set_option maxHeartbeats 1600000 in
theorem ron_bad {w : World} {base r f g q oq cq n : Nat} {sm : Int} {p5 : Option Addr} {c5 : Nat} (h : Rco w base r f g q oq cq n sm 0 (.slice none 0 0) p5 c5) (pb : Option Addr) (c : Nat) (xs : List Nat) (hx : Rb w pb 8 xs) (h1 : 1 ≤ n) (h8 : n ≤ 8) (hp : Mf.Pows w) (ht : Turns w) (hgb : 1 < base ∧ 0 < base) (HB : Hid ((((Crc.sum (xs.take n) : Nat) : Int) != sm) = true)) :
    Calls Tryd.prog 30 #[.pointer (some ⟨r, 0, none⟩), .agg (msgF 13 0 4 0 true (.slice pb 8 c))] w fun e w' => e = .returned (.bool true) ∧ Kp (fun b => b = f ∨ b = g) w w' ∧ Rco w' base r f g q oq cq n sm 0 (.slice none 0 0) p5 c5 := by
  have hL : Mf.lenOf 1 n = 8 := by unfold Mf.lenOf Mf.stripesOf; omega
  have k0 : Kp (fun _ => False) w (w.alloc (.cells (msgF 13 0 4 0 true (.slice pb 8 c)) 45)) := (Kp.refl _ _).alloc _
  have HMb : Hid (Lv (w.alloc (.cells (msgF 13 0 4 0 true (.slice pb 8 c)) 45)) w.heap.size (msgF 13 0 4 0 true (.slice pb 8 c)).toList) := Lv.new w _ _
  have HRC : Hid (Rco w base r f g q oq cq n sm 0 (.slice none 0 0) p5 c5) := h
  have HPh : Hid (∀ u, Kp (fun _ => False) w u → Calls _ _ _ u _) := fun u k => rphase r 1 u ((h.lr.keep k id).cell (j := 0) rfl)
  have HFo : Hid (∀ u, Kp (fun _ => False) w u → Calls _ _ _ u _) := fun u k => fon2 (h.fe.keep0 k) (by omega) hL pb c xs (hx.keep0 k)
  have HV : Hid (1 ≤ n ∧ n ≤ 8 ∧ Mf.Pows w ∧ Turns w ∧ 1 < base ∧ 0 < base) := ⟨h1, h8, hp, ht, hgb⟩
  obtain ⟨mv, hmv⟩ : ∃ mv : Array Value, mv = msgF 13 0 4 0 true (.slice pb 8 c) := ⟨_, rfl⟩
  have HMV : Hid (mv = msgF 13 0 4 0 true (.slice pb 8 c)) := hmv
  rw [← hmv] at HMb k0 HFo ⊢
  clear h hx h1 h8 hp ht hgb hmv hL
  go_enter Tryd.func30, Tryd.ntmps30
  go_wp2_with (go_at_call 29; refine (HPh.out _ k0).mono ?_; rintro e w1 ⟨rfl, hw1⟩; obtain rfl := hw1.symm)
  obtain ⟨u, hu⟩ : ∃ x, x = w.alloc (.cells mv 45) := ⟨_, rfl⟩
  obtain ⟨bx, hbx⟩ : ∃ x, x = w.heap.size := ⟨_, rfl⟩
  rw [← hu, ← hbx] at HMb
  rw [← hu] at k0
  rw [← hu, ← hbx]
  have HBX : Hid (bx = w.heap.size) := hbx
  clear hu hbx
  have kd : Kp (fun _ => False) u u.drew := (Kp.refl _ _).drew
  have kwd := k0.trans kd (fun _ _ e => e)
  have HSS : Hid (∀ z, Lv z bx mv.toList → Lv z r (recA 1 2 (.slice p5 1 c5) (.pointer (some ⟨f, 0, none⟩)) (.pointer none)) → z.cell? ⟨r, 7, none⟩ = some (.pointer (some ⟨f, 0, none⟩)) ∧ (loadVar 45 ⟨bx, 0, none⟩).run Tryd.prog z = .ok (.agg mv) z) := fun z hz hr => by
    have hld := hz.load dsMsg szMsg (by rw [HMV.out]; rfl)
    rw [Array.toArray_toList] at hld
    exact ⟨hr.cell (j := 7) rfl, hld⟩
  refine ro4_region ⟨by kernel_rfl, by kernel_rfl, by kernel_rfl, by kernel_rfl, by kernel_rfl, by kernel_rfl, by kernel_rfl, by kernel_rfl, by kernel_rfl, by kernel_rfl, by kernel_rfl, by kernel_rfl, by kernel_rfl⟩ r bx f mv (fun d _ _ _ _ h => by cases d <;> exact h) (by rfl) (by rfl) (by rfl) (HSS.out _ (HMb.out.keep kd id) (HRC.out.lr.keep kwd id)) (fun z => Kp (fun b => b = f ∨ b = g) w z ∧ ∃ ps cs, Rco z base r f g q oq cq n sm 1 (.slice ps 8 cs) p5 c5 ∧ Rb z ps 8 xs) ((HFo.out _ kwd).mono ?_) ?_
  · rintro e z ⟨rfl, kz, ps, cs, fe, rb, hcs, hps⟩
    have R0 := HRC.out.keep0 kwd
    have hlt := HRC.out.fe.lt
    have hbx := HBX.out
    have lr := R0.lr.keep kz (fun e => by have := R0.ne; omega)
    exact ⟨rfl, HSS.out z ((HMb.out.keep kd id).keep kz (fun e => by omega)) lr, (kwd.mono (fun _ _ e => e.elim)).trans kz (fun _ _ e => e), ps, cs, ⟨lr, fe, R0.fl.keep kz (fun b hb e => by omega), R0.ne, R0.b⟩, rb⟩
  intro z hT
  simp only [Act.put, List.setIfInBounds_toArray, List.set_cons_succ, List.set_cons_zero]
  obtain ⟨kwz, ps, cs, Rz, rb⟩ := hT
  obtain ⟨h1, h8, hp, ht, hg1, hg2⟩ := HV.out
  have hbb := Rz.b
  have HGo : Hid (Calls _ _ _ z _) := goOn_bad ps cs xs Rz rb h1 h8 (pows_keep hp kwz (fun e => by omega)) (ht.keep kwz (fun e => by omega)) HB
  have HZ : Hid (Kp (fun b => b = f ∨ b = g) w z ∧ True) := ⟨kwz, trivial⟩
  clear kwz Rz rb h1 h8 hp ht hg1 hg2 hbb kd kwd HSS HFo HPh
  go_wp2_with (go_at_call 62; refine HGo.out.mono ?_; rintro e z3 ⟨rfl, k3, hj⟩)
  go_ret
  exact ⟨rfl, HZ.out.1.trans k3 (fun _ _ e => e), hj⟩

set_option maxRecDepth 100000 in
set_option maxHeartbeats 1600000 in
theorem ron_good {w : World} {base r f g q oq cq n : Nat} {sm : Int} {p5 : Option Addr} {c5 : Nat} (h : Rco w base r f g q oq cq n sm 0 (.slice none 0 0) p5 c5) (pb : Option Addr) (c : Nat) (xs : List Nat) (hx : Rb w pb 8 xs) (h1 : 1 ≤ n) (h8 : n ≤ 8) (hp : Mf.Pows w) (ht : Turns w) (hgb : 1 < base ∧ 0 < base) (HB : Hid ((((Crc.sum (xs.take n) : Nat) : Int) != sm) = false)) :
    Calls Tryd.prog 30 #[.pointer (some ⟨r, 0, none⟩), .agg (msgF 13 0 4 0 true (.slice pb 8 c))] w fun e w' => e = .returned (.bool true) ∧ Kp (fun b => b = r ∨ b = f ∨ b = g) w w' ∧ ∃ nv sp, Lv w' r (recA 2 2 nv (.pointer none) (.pointer (some ⟨sp, 0, none⟩))) := by
  have hL : Mf.lenOf 1 n = 8 := by unfold Mf.lenOf Mf.stripesOf; omega
  have k0 : Kp (fun _ => False) w (w.alloc (.cells (msgF 13 0 4 0 true (.slice pb 8 c)) 45)) := (Kp.refl _ _).alloc _
  have HMb : Hid (Lv (w.alloc (.cells (msgF 13 0 4 0 true (.slice pb 8 c)) 45)) w.heap.size (msgF 13 0 4 0 true (.slice pb 8 c)).toList) := Lv.new w _ _
  have HRC : Hid (Rco w base r f g q oq cq n sm 0 (.slice none 0 0) p5 c5) := h
  have HPh : Hid (∀ u, Kp (fun _ => False) w u → Calls _ _ _ u _) := fun u k => rphase r 1 u ((h.lr.keep k id).cell (j := 0) rfl)
  have HFo : Hid (∀ u, Kp (fun _ => False) w u → Calls _ _ _ u _) := fun u k => fon2 (h.fe.keep0 k) (by omega) hL pb c xs (hx.keep0 k)
  have HV : Hid (1 ≤ n ∧ n ≤ 8 ∧ Mf.Pows w ∧ Turns w ∧ 1 < base ∧ 0 < base) := ⟨h1, h8, hp, ht, hgb⟩
  obtain ⟨mv, hmv⟩ : ∃ mv : Array Value, mv = msgF 13 0 4 0 true (.slice pb 8 c) := ⟨_, rfl⟩
  have HMV : Hid (mv = msgF 13 0 4 0 true (.slice pb 8 c)) := hmv
  rw [← hmv] at HMb k0 HFo ⊢
  clear h hx h1 h8 hp ht hgb hmv hL
  go_enter Tryd.func30, Tryd.ntmps30
  go_wp2_with (go_at_call 29; refine (HPh.out _ k0).mono ?_; rintro e w1 ⟨rfl, hw1⟩; obtain rfl := hw1.symm)
  obtain ⟨u, hu⟩ : ∃ x, x = w.alloc (.cells mv 45) := ⟨_, rfl⟩
  obtain ⟨bx, hbx⟩ : ∃ x, x = w.heap.size := ⟨_, rfl⟩
  rw [← hu, ← hbx] at HMb
  rw [← hu] at k0
  rw [← hu, ← hbx]
  have HBX : Hid (bx = w.heap.size) := hbx
  clear hu hbx
  have kd : Kp (fun _ => False) u u.drew := (Kp.refl _ _).drew
  have kwd := k0.trans kd (fun _ _ e => e)
  have HSS : Hid (∀ z, Lv z bx mv.toList → Lv z r (recA 1 2 (.slice p5 1 c5) (.pointer (some ⟨f, 0, none⟩)) (.pointer none)) → z.cell? ⟨r, 7, none⟩ = some (.pointer (some ⟨f, 0, none⟩)) ∧ (loadVar 45 ⟨bx, 0, none⟩).run Tryd.prog z = .ok (.agg mv) z) := fun z hz hr => by
    have hld := hz.load dsMsg szMsg (by rw [HMV.out]; rfl)
    rw [Array.toArray_toList] at hld
    exact ⟨hr.cell (j := 7) rfl, hld⟩
  refine ro4_region ⟨by kernel_rfl, by kernel_rfl, by kernel_rfl, by kernel_rfl, by kernel_rfl, by kernel_rfl, by kernel_rfl, by kernel_rfl, by kernel_rfl, by kernel_rfl, by kernel_rfl, by kernel_rfl, by kernel_rfl⟩ r bx f mv (fun d _ _ _ _ h => by cases d <;> exact h) (by rfl) (by rfl) (by rfl) (HSS.out _ (HMb.out.keep kd id) (HRC.out.lr.keep kwd id)) (fun z => Kp (fun b => b = f ∨ b = g) w z ∧ ∃ ps cs, Rco z base r f g q oq cq n sm 1 (.slice ps 8 cs) p5 c5 ∧ Rb z ps 8 xs) ((HFo.out _ kwd).mono ?_) ?_
  · rintro e z ⟨rfl, kz, ps, cs, fe, rb, hcs, hps⟩
    have R0 := HRC.out.keep0 kwd
    have hlt := HRC.out.fe.lt
    have hbx := HBX.out
    have lr := R0.lr.keep kz (fun e => by have := R0.ne; omega)
    exact ⟨rfl, HSS.out z ((HMb.out.keep kd id).keep kz (fun e => by omega)) lr, (kwd.mono (fun _ _ e => e.elim)).trans kz (fun _ _ e => e), ps, cs, ⟨lr, fe, R0.fl.keep kz (fun b hb e => by omega), R0.ne, R0.b⟩, rb⟩
  intro z hT
  simp only [Act.put, List.setIfInBounds_toArray, List.set_cons_succ, List.set_cons_zero]
  obtain ⟨kwz, ps, cs, Rz, rb⟩ := hT
  obtain ⟨h1, h8, hp, ht, hg1, hg2⟩ := HV.out
  have hbb := Rz.b
  have HGo : Hid (Calls _ _ _ z _) := goOn_good ps cs xs Rz rb h1 h8 (pows_keep hp kwz (fun e => by omega)) (ht.keep kwz (fun e => by omega)) HB
  have HZ : Hid (Kp (fun b => b = f ∨ b = g) w z ∧ True) := ⟨kwz, trivial⟩
  clear kwz Rz rb h1 h8 hp ht hg1 hg2 hbb kd kwd HSS HFo HPh
  go_wp2_with (go_at_call 62; refine HGo.out.mono ?_; rintro e z3 ⟨rfl, k3, hj⟩)
  go_ret
  obtain ⟨nv, sp, lr, _⟩ := hj
  exact ⟨rfl, (HZ.out.1.mono (fun _ _ e => Or.inr e)).trans k3 (fun _ _ e => Or.inl e), nv, sp, lr⟩

end Go.Proofs.YtmncocmeafcpfaaDoor

/- Sums plain: one byte, turned, turns the sum. -/
namespace Go.Proofs.YtmncocmeafcpfaaDoor
theorem zip_zeros : ∀ xs : List Nat, xs.zipWith (· ^^^ ·) (List.replicate xs.length 0) = xs
  | [] => rfl
  | x :: xs => by
    show (x ^^^ 0) :: xs.zipWith (· ^^^ ·) (List.replicate xs.length 0) = x :: xs
    rw [zip_zeros xs, Nat.xor_zero]
theorem run_state_inj {s t : Nat} (hs : s < 2 ^ 32) (ht : t < 2 ^ 32) (xs : List Nat) (h : Crc.run s xs = Crc.run t xs) : s = t := by
  have hx := Crc.run_xor (d := s ^^^ t) s xs (List.replicate xs.length 0) (by simp)
  rw [zip_zeros, ← Nat.xor_assoc, Nat.xor_self, Nat.zero_xor, ← h] at hx
  have h0 : Crc.run (s ^^^ t) (List.replicate xs.length 0) = 0 := by
    have := congrArg (fun z => Crc.run s xs ^^^ z) hx
    simp only [← Nat.xor_assoc, Nat.xor_self, Nat.zero_xor] at this
    exact this.symm
  have := Crc.run_zeros_inj xs.length (Nat.xor_lt_two_pow hs ht) h0
  have h2 := congrArg (fun z => s ^^^ z) this
  simp only [← Nat.xor_assoc, Nat.xor_self, Nat.zero_xor, Nat.xor_zero] at h2
  exact h2.symm
theorem sum_head {a b : Nat} {r : List Nat} (ha : a < 256) (hb : b < 256) (h : Crc.sum (a :: r) = Crc.sum (b :: r)) : a = b := by
  unfold Crc.sum at h
  have h1 : Crc.run 0xffffffff (a :: r) = Crc.run 0xffffffff (b :: r) := by
    have := congrArg (fun z => z ^^^ 0xffffffff) h
    simp only [Nat.xor_assoc, Nat.xor_self, Nat.xor_zero] at this
    exact this
  have h2 : Crc.run (Crc.stp 0xffffffff a) r = Crc.run (Crc.stp 0xffffffff b) r := h1
  have h3 := run_state_inj (Crc.stp_lt (by decide) ha) (Crc.stp_lt (by decide) hb) r h2
  unfold Crc.stp at h3
  rw [Crc.it_xor, Crc.it_xor 8 _ b] at h3
  have h4 : Crc.it 8 (a ^^^ b) = 0 := by
    rw [Crc.it_xor]
    have := congrArg (fun z => Crc.it 8 0xffffffff ^^^ z) h3
    simp only [← Nat.xor_assoc, Nat.xor_self, Nat.zero_xor] at this
    rw [this, Nat.xor_self]
  have h5 := Crc.it_inj0 8 (Nat.xor_lt_two_pow (n := 32) (by omega) (by omega)) h4
  have h6 := congrArg (fun z => a ^^^ z) h5
  simp only [← Nat.xor_assoc, Nat.xor_self, Nat.zero_xor, Nat.xor_zero] at h6
  exact h6.symm
end Go.Proofs.YtmncocmeafcpfaaDoor
