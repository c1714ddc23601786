/- A put that is placed: shards.NewStore, cut, Place (laid by scripts/mkzg.py). -/
import Derived.Test.YtmncocmeafcpfaaDoorZf
namespace Go.Proofs.YtmncocmeafcpfaaDoor
set_option linter.unusedVariables false
set_option linter.unusedSimpArgs false
open Go.RowKit Go.Deep

set_option maxRecDepth 100000 in
set_option maxHeartbeats 1600000 in
theorem newStore_ok (bl : Int) (G cq t gc : Nat) (q : Option Addr) (Z : Nat → Prop) (zs : List Int) (w : World) (hf : Fl w Z q (zs.map encI)) (hG : G = zs.length) (hn : G ≤ 1000) :
    Calls Tryd.prog 102 #[.int .i64 bl, .slice q G cq, .slice (some ⟨t, 0, none⟩) G gc] w fun e w' => ∃ sp q2 c2, e = .returned (.pointer (some ⟨sp, 0, none⟩)) ∧ Kp (fun _ => False) w w' ∧ w.heap.size ≤ sp ∧ sp < w'.heap.size ∧ Lv w' sp [.int .i64 bl, .slice q2 G c2, .slice (some ⟨t, 0, none⟩) G gc, .int .i64 (G : Int)] ∧ Fl w' (fun b => w.heap.size ≤ b ∧ b < sp) q2 (zs.map encI) := by
  have HC : Hid (Calls Tryd.prog 73 #[.slice q G cq] w fun e w' => ∃ v, e = .returned v ∧ Kp (fun _ => False) w w' ∧ w'.ownsRow w.heap.size 3 1 v zs.length (zs.map encI)) := by
    have := clone_ints Z q cq zs w hf (by show _ ≤ _; omega)
    rw [← hG] at this
    rw [← hG]
    exact this
  have HG : Hid (G = zs.length) := hG
  clear hf hG hn
  go_enter Tryd.func102, Tryd.ntmps102
  go_wp2_with fail
  refine HC.out.mono ?_
  rintro e w1 ⟨v, rfl, k1, ho⟩
  obtain ⟨q2, c2, rfl, hfl⟩ := own_fl ho
  rw [← HG.out] at ho ⊢
  have HFl : Hid (Fl w1 (fun b => w.heap.size ≤ b ∧ b < w1.heap.size) q2 (zs.map encI)) := hfl
  have hl : Lv (w1.alloc (.cells #[.int .i64 bl, .slice q2 G c2, .slice (some ⟨t, 0, none⟩) G gc, .int .i64 (G : Int)] 150)) w1.heap.size [.int .i64 bl, .slice q2 G c2, .slice (some ⟨t, 0, none⟩) G gc, .int .i64 (G : Int)] := Lv.new w1 _ _
  have HL : Hid (Lv (w1.alloc (.cells #[.int .i64 bl, .slice q2 G c2, .slice (some ⟨t, 0, none⟩) G gc, .int .i64 (G : Int)] 150)) w1.heap.size [.int .i64 bl, .slice q2 G c2, .slice (some ⟨t, 0, none⟩) G gc, .int .i64 (G : Int)]) := hl
  have HK : Hid (Kp (fun _ => False) w w1) := k1
  clear hfl ho hl k1 HC
  go_wp2
  go_ret
  have ka : Kp (fun _ => False) w1 (w1.alloc (.cells #[.int .i64 bl, .slice q2 G c2, .slice (some ⟨t, 0, none⟩) G gc, .int .i64 (G : Int)] 150)) := (Kp.refl _ _).alloc _
  exact ⟨w1.heap.size, q2, c2, rfl, HK.out.trans ka (fun _ _ e => e), HK.out.size, HL.out.lt (by simp), HL.out, HFl.out.keep ka (fun _ _ => id)⟩

/-- a store of shards: none is stored -/
structure Sto (w : World) (base sp : Nat) (bl : Int) (G : Nat) (zs : List Int) (t : Nat) (B : Nat → Nat) (N : Nat) (X : Nat → Nat → Nat) : Prop where
  s : ∃ q2 c2, Lv w sp [.int .i64 bl, .slice q2 G c2, .slice (some ⟨t, 0, none⟩) G G, .int .i64 (G : Int)] ∧ Fl w (fun b => base ≤ b) q2 (zs.map encI)
  m : Mf.Mat w t B G N X
  b : base ≤ sp ∧ base ≤ t ∧ ∀ i, i < G → base ≤ B i
  g : G = zs.length
theorem Sto.keep {S : Nat → Prop} {w w' : World} {base sp : Nat} {bl : Int} {G : Nat} {zs : List Int} {t : Nat} {B : Nat → Nat} {N : Nat} {X : Nat → Nat → Nat} (h : Sto w base sp bl G zs t B N X) (k : Kp S w w') (hS : ∀ b, base ≤ b → ¬ S b) : Sto w' base sp bl G zs t B N X := by
  obtain ⟨q2, c2, h1, h2⟩ := h.s
  exact ⟨⟨q2, c2, h1.keep k (hS _ h.b.1), h2.keep k (fun b hb => hS b hb)⟩, h.m.keep (kp_to k) (hS _ h.b.2.1) (fun i hi => hS _ (h.b.2.2 i hi)), h.b, h.g⟩

set_option maxRecDepth 100000 in
set_option maxHeartbeats 3200000 in
theorem cut_put {w : World} {c : Nat} {self aid now : Int} {cm : Cs0} {cv : Value} {dn : Bool} {ft : Value} {wp : Option Addr} {n wc K M : Nat} {xs : List Nat} (h : Lv w c (callA self aid now cm cv dn (.slice wp n wc) (.pointer none) ft))
    (hw : Rb w wp n xs) (hn : (n : Int) ≤ 400) (hk1 : cm.k = (K : Int)) (hm1 : cm.m = (M : Int)) (h1 : 1 ≤ (K : Int)) (h3 : (M : Int) ≤ 255 - (K : Int)) (hp : Mf.Pows w) (q : Option Addr) (cq : Nat) (zs : List Int) (Y : Nat → Prop) (hf : Fl w Y q (zs.map encI)) (hG : K + M = zs.length) :
    Calls Tryd.prog 74 #[.pointer (some ⟨c, 16, none⟩), .agg (cmdA cm (.slice q (K + M) cq))] w fun e w' => e = .returned (.tuple #[]) ∧ Kp (fun b => b = c) w w' ∧ ∃ sp t B, Lv w' c (callA self aid now cm cv dn (.slice none 0 0) (.pointer (some ⟨sp, 0, none⟩)) ft) ∧ Sto w' w.heap.size sp cm.id (K + M) zs t B (Mf.lenOf K n) (Mf.enc K (Mf.cutAt K (fun i => xs.getD i 0) n)) := by
  have k0 : Kp (fun _ => False) w (w.alloc (.cells (cmdA cm (.slice q (K + M) cq)) 42)) := (Kp.refl _ _).alloc _
  have HB : Hid (Lv (w.alloc (.cells (cmdA cm (.slice q (K + M) cq)) 42)) w.heap.size (cmdA cm (.slice q (K + M) cq)).toList) := Lv.new w _ _
  have HL : Hid (Lv w c (callA self aid now cm cv dn (.slice wp n wc) (.pointer none) ft)) := h
  have HCut : Hid (∀ u, Kp (fun _ => False) w u → Calls _ _ _ u _) := fun u k => cut_ok K M n wc wp xs u (hw.keep0 k) h1 h3 hn (pows_keep hp k id)
  have HNS : Hid (∀ (t : Nat) u, Kp (fun _ => False) w u → Calls Tryd.prog 102 #[.int .i64 cm.id, .slice q (K + M) cq, .slice (some ⟨t, 0, none⟩) (K + M) (K + M)] u _) := fun t u k => newStore_ok cm.id (K + M) cq t (K + M) q Y zs u (hf.keep k (fun _ _ => id)) hG (by omega)
  have HK : Hid (cm.k = (K : Int) ∧ cm.m = (M : Int) ∧ K + M = zs.length) := ⟨hk1, hm1, hG⟩
  obtain ⟨ca, hca⟩ : ∃ ca : Array Value, ca = cmdA cm (.slice q (K + M) cq) := ⟨_, rfl⟩
  have HCA : Hid (ca = cmdA cm (.slice q (K + M) cq)) := hca
  rw [← hca] at HB k0 ⊢
  clear h hw hn hk1 hm1 h1 h3 hp hf hG hca
  go_enter Tryd.func74, Tryd.ntmps74
  go_wp2
  obtain ⟨u, hu⟩ : ∃ x, x = w.alloc (.cells ca 42) := ⟨_, rfl⟩
  obtain ⟨bx, hbx⟩ : ∃ x, x = w.heap.size := ⟨_, rfl⟩
  have hlt : c < w.heap.size := HL.out.lt (by simp)
  rw [← hu, ← hbx] at HB
  rw [← hu] at k0
  rw [← hu, ← hbx]
  have HBX : Hid (bx = w.heap.size ∧ c < w.heap.size) := ⟨hbx, hlt⟩
  clear hu hbx hlt
  have kd : Kp (fun _ => False) u u.drew := (Kp.refl _ _).drew
  have kwd := k0.trans kd (fun _ _ e => e)
  obtain ⟨dc, hd1, hd2⟩ := (⟨_, Tryd.underlying26, rfl⟩ : ∃ d, Tryd.prog.underlying 26 = some d ∧ d.isRow = true)
  have hszc : (Tryd.prog.info? 26).map (·.size) = some 2 := by kernel_rfl
  have HSS : Hid (∀ z, Kp (fun _ => False) u z → (loadVar 26 ⟨bx, 9, none⟩).run Tryd.prog z = .ok (.agg #[.int .i64 (K : Int), .int .i64 (M : Int)]) z ∧ z.cell? ⟨c, 16, none⟩ = some (.slice wp n wc)) := fun z kz => by
    have lb := HB.out.keep kz id
    rw [HCA.out] at lb
    have hr : z.rangeAt bx 9 [.int .i64 (K : Int), .int .i64 (M : Int)] := fun j u hu => by
      rcases j with _ | _ | j
      · simp at hu
        subst hu
        have := lb.cell (j := 9) rfl
        rw [HK.out.1] at this
        exact this
      · simp at hu
        subst hu
        have := lb.cell (j := 10) rfl
        rw [HK.out.2.1] at this
        exact this
      · simp at hu
    exact ⟨run_loadVar_mid z bx 9 _ _ dc hr hd1 hd2 (by rw [hszc]; rfl), ((HL.out.keep k0 id).keep kz id).cell (j := 16) rfl⟩
  refine ct1_region ⟨by kernel_rfl, by kernel_rfl, by kernel_rfl, by kernel_rfl, by kernel_rfl, by kernel_rfl, by kernel_rfl, by kernel_rfl, by kernel_rfl, by kernel_rfl, by kernel_rfl, by kernel_rfl, by kernel_rfl, by kernel_rfl, by kernel_rfl, by kernel_rfl, by kernel_rfl, by kernel_rfl⟩ c bx K M n wc 0 wp (fun d _ _ _ _ h => by cases d <;> exact h) (by rfl) (by rfl) (by rfl) (HSS.out _ kd) (fun t z => Kp (fun _ => False) u z ∧ w.heap.size ≤ t ∧ ∃ B, (∀ i, i < K + M → w.heap.size ≤ B i) ∧ Mf.Mat z t B (K + M) (Mf.lenOf K n) (Mf.enc K (Mf.cutAt K (fun i => xs.getD i 0) n))) ((HCut.out _ kwd).mono ?_) ?_
  · rintro e z ⟨t, B, rfl, kz, ht, hB, hM⟩
    have kuz := kd.trans kz (fun _ _ e => e)
    have hwz := kwd.size
    exact ⟨t, rfl, HSS.out z kuz, kuz, by omega, B, fun i hi => by have := hB i hi; omega, hM⟩
  intro t z hT
  simp only [Act.put, List.setIfInBounds_toArray, List.set_cons_succ, List.set_cons_zero]
  obtain ⟨kuz, ht, B, hB, hM⟩ := hT
  have kwz := k0.trans kuz (fun _ _ e => e)
  have lb := HB.out.keep kuz id
  rw [HCA.out] at lb
  have b0 := lb.cell (j := 0) rfl
  have b11 := lb.cell (j := 11) rfl
  have lc := HL.out.keep kwz id
  have HZ : Hid (Kp (fun _ => False) w z ∧ w.heap.size ≤ t ∧ (∀ i, i < K + M → w.heap.size ≤ B i) ∧ Mf.Mat z t B (K + M) (Mf.lenOf K n) (Mf.enc K (Mf.cutAt K (fun i => xs.getD i 0) n)) ∧ Lv z c (callA self aid now cm cv dn (.slice wp n wc) (.pointer none) ft)) := ⟨kwz, ht, hB, hM, lc⟩
  have HN : Hid (Calls _ _ _ z _) := HNS.out t z kwz
  clear kuz ht hB hM kwz lb lc HSS kd kwd HCut HNS
  go_wp2_with fail
  refine HN.out.mono ?_
  rintro e z1 ⟨sp, q2, c2, rfl, k1, hsp, hsp2, lsp, hfl⟩
  have l1 := HZ.out.2.2.2.2.keep k1 id
  have c16 := l1.cell (j := 16) rfl
  have c17 := l1.cell (j := 17) rfl
  have f16 := l1.fz (j := 16) (show 16 < 19 by omega)
  have f17 := l1.fz (j := 17) (show 17 < 19 by omega)
  have HF : Hid (Lv ((z1.setCell ⟨c, 16, none⟩ (.slice none 0 0)).setCell ⟨c, 17, none⟩ (.pointer (some ⟨sp, 0, none⟩))) c (callA self aid now cm cv dn (.slice none 0 0) (.pointer (some ⟨sp, 0, none⟩)) ft) ∧ Kp (fun b => b = c) w ((z1.setCell ⟨c, 16, none⟩ (.slice none 0 0)).setCell ⟨c, 17, none⟩ (.pointer (some ⟨sp, 0, none⟩))) ∧ Sto ((z1.setCell ⟨c, 16, none⟩ (.slice none 0 0)).setCell ⟨c, 17, none⟩ (.pointer (some ⟨sp, 0, none⟩))) w.heap.size sp cm.id (K + M) zs t B (Mf.lenOf K n) (Mf.enc K (Mf.cutAt K (fun i => xs.getD i 0) n))) := by
    have l2 : Lv (z1.setCell ⟨c, 16, none⟩ (.slice none 0 0)) c (callA self aid now cm cv dn (.slice none 0 0) (.pointer none) ft) := l1.set1 16 (.slice none 0 0) (show 16 < 19 by omega)
    have ks : Kp (fun b => b = c) z1 ((z1.setCell ⟨c, 16, none⟩ (.slice none 0 0)).setCell ⟨c, 17, none⟩ (.pointer (some ⟨sp, 0, none⟩))) := ((Kp.refl (fun b => b = c) z1).setCell (fun _ => rfl) _).setCell (fun _ => rfl) _
    obtain ⟨kwz, ht, hB, hM, _⟩ := HZ.out
    have hwz := kwz.size
    have hbx := HBX.out
    have s1 : Sto z1 w.heap.size sp cm.id (K + M) zs t B (Mf.lenOf K n) (Mf.enc K (Mf.cutAt K (fun i => xs.getD i 0) n)) := ⟨⟨q2, c2, lsp, hfl.mono (fun b hb => by omega)⟩, hM.keep (kp_to k1) id (fun _ _ => id), ⟨by omega, ht, hB⟩, HK.out.2.2⟩
    exact ⟨l2.set1 17 _ (show 17 < 19 by omega), ((kwz.trans k1 (fun _ _ e => e)).mono (fun _ _ e => e.elim)).trans ks (fun _ _ e => e), s1.keep ks (fun b hb e => by omega)⟩
  clear l1 k1 hsp hsp2 lsp hfl HZ HN b0 b11
  go_wp2
  go_end0
  exact ⟨rfl, HF.out.2.1, sp, t, B, HF.out.1, HF.out.2.2⟩
end Go.Proofs.YtmncocmeafcpfaaDoor
