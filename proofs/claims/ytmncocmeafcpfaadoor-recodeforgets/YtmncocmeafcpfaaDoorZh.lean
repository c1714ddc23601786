/- A put is placed (laid by scripts/mkzh.py). -/
import Derived.Test.YtmncocmeafcpfaaDoorZg
namespace Go.Proofs.YtmncocmeafcpfaaDoor
set_option linter.unusedVariables false
set_option linter.unusedSimpArgs false
open Go.RowKit Go.Deep

theorem call_cmd {w : World} {c : Nat} {self aid now : Int} {cm : Cs0} {cv : Value} {dn : Bool} {wh st ft : Value} (h : Lv w c (callA self aid now cm cv dn wh st ft)) : (loadVar 42 ⟨c, 3, none⟩).run Tryd.prog w = .ok (.agg (cmdA cm cv)) w := by
  obtain ⟨dc, hdc1, hdc2⟩ := dsCmd
  refine run_loadVar_mid w c 3 42 (cmdA cm cv).toList dc (fun j u hu => ?_) hdc1 hdc2 (by rw [szCmd]; rfl)
  have hj : j < 12 := by have := (List.getElem?_eq_some_iff.1 hu).1; simpa using this
  have := h.r (3 + j) u (by rw [← hu]; rcases j with _ | _ | _ | _ | _ | _ | _ | _ | _ | _ | _ | _ | j <;> first | rfl | omega)
  rwa [Nat.zero_add] at this
/-- a command with its code -/
abbrev withCode (cm : Cs0) (K M : Int) : Cs0 := ⟨cm.id, cm.kind, cm.key, cm.blob, cm.other, cm.index, cm.node, cm.size, cm.sum, K, M⟩

set_option maxRecDepth 100000 in
set_option maxHeartbeats 3200000 in
theorem place_ok {w : World} {c : Nat} {self aid now : Int} {cm : Cs0} {cv : Value} {ft : Value} {wp : Option Addr} {n wc K M : Nat} {xs : List Nat} (h : Lv w c (callA self aid now cm cv false (.slice wp n wc) (.pointer none) ft))
    (hi : 0 < cm.id) (hkd : cm.kind = 1) (hsz : cm.size = (n : Int)) (hw : Rb w wp n xs) (hwb : ∀ a, wp = some a → a.block ≠ c) (hn : (n : Int) ≤ 400) (h1 : 1 ≤ (K : Int)) (h3 : (M : Int) ≤ 255 - (K : Int)) (hp : Mf.Pows w) (hgc : 1 ≠ c)
    (p : Option Addr) (pc : Nat) (zs : List Int) (Y : Nat → Prop) (hf : Fl w Y p (zs.map encI)) (hG : K + M = zs.length) (hpc : K + M ≤ pc) (hN : Nds zs) :
    Calls Tryd.prog 35 #[.pointer (some ⟨c, 0, none⟩), .agg #[.int .i64 (K : Int), .int .i64 (M : Int)], .slice p (K + M) pc] w fun e w' => e = .returned (.int .i64 0) ∧ Kp (fun b => b = c) w w' ∧ ∃ q cq sp t B, Lv w' c (callA self aid now (withCode cm K M) (.slice q (K + M) cq) false (.slice none 0 0) (.pointer (some ⟨sp, 0, none⟩)) ft) ∧ Sto w' w.heap.size sp cm.id (K + M) zs t B (Mf.lenOf K n) (Mf.enc K (Mf.cutAt K (fun i => xs.getD i 0) n)) ∧ Fl w' (fun b => w.heap.size ≤ b) q (zs.map encI) := by
  have k0 : Kp (fun _ => False) w (w.alloc (.cells #[.int .i64 (K : Int), .int .i64 (M : Int)] 26)) := (Kp.refl _ _).alloc _
  have HB : Hid (Lv (w.alloc (.cells #[.int .i64 (K : Int), .int .i64 (M : Int)] 26)) w.heap.size [.int .i64 (K : Int), .int .i64 (M : Int)]) := Lv.new w _ _
  have HL : Hid (Lv w c (callA self aid now cm cv false (.slice wp n wc) (.pointer none) ft)) := h
  have HM : Hid (∀ u, Kp (fun _ => False) w u → Calls _ _ _ u _) := fun u k => cmade c cm.id u ((h.keep k id).cell (j := 3) rfl) hi
  have HPl : Hid (∀ u, Kp (fun _ => False) w u → Calls _ _ _ u _) := fun u k => placed_no c 16 u ((h.keep k id).cell (j := 17) rfl)
  have HFit : Hid (∀ u, Kp (fun _ => False) w u → Calls Tryd.prog 57 #[.agg #[.int .i64 (K : Int), .int .i64 (M : Int)], .int .i64 (n : Int), .slice p (K + M) pc] u _) := fun u k => fit_yes K M n (K + M) p pc Y zs u h1 h3 hn (hf.keep k (fun _ _ => id)) ⟨hG, rfl⟩ hN hpc
  have HCl : Hid (∀ u, Kp (fun _ => False) w u → Calls Tryd.prog 73 #[.slice p (K + M) pc] u fun e w' => ∃ q cq, e = .returned (.slice q (K + M) cq) ∧ Kp (fun _ => False) u w' ∧ Fl w' (fun b => u.heap.size ≤ b ∧ b < w'.heap.size) q (zs.map encI)) := fun u k => by
    have := clone_ints Y p pc zs u (hf.keep k (fun _ _ => id)) (by show _ ≤ _; omega)
    rw [← hG] at this
    refine this.mono ?_
    rintro e w' ⟨v, rfl, k2, ho⟩
    obtain ⟨q, cq, rfl, hfl⟩ := own_fl ho
    exact ⟨q, cq, rfl, k2, hfl⟩
  have HV : Hid (Rb w wp n xs ∧ (∀ a, wp = some a → a.block ≠ c) ∧ (n : Int) ≤ 400 ∧ 1 ≤ (K : Int) ∧ (M : Int) ≤ 255 - (K : Int) ∧ Mf.Pows w ∧ 1 ≠ c ∧ K + M = zs.length) := ⟨hw, hwb, hn, h1, h3, hp, hgc, hG⟩
  have HS0 : Hid (∀ z, Kp (fun _ => False) w z → z.cell? ⟨c, 15, none⟩ = some (.bool false) ∧ z.cell? ⟨c, 4, none⟩ = some (.int .i64 1) ∧ z.cell? ⟨c, 10, none⟩ = some (.int .i64 (n : Int))) := fun z k => by
    have l := h.keep k id
    have c4 := l.cell (j := 4) rfl
    have c10 := l.cell (j := 10) rfl
    rw [hkd] at c4
    rw [hsz] at c10
    exact ⟨l.cell (j := 15) rfl, c4, c10⟩
  have hlt : c < w.heap.size := h.lt (by simp)
  obtain ⟨G, hGG⟩ : ∃ G, G = K + M := ⟨_, rfl⟩
  rw [← hGG] at HFit HCl ⊢
  have HGG : Hid (G = K + M) := hGG
  clear h hi hkd hsz hw hwb hn h1 h3 hp hgc hf hG hpc hN hGG
  go_enter Tryd.func35, Tryd.ntmps35
  go_wp2_with fail
  obtain ⟨u, hu⟩ : ∃ x, x = w.alloc (.cells #[.int .i64 (K : Int), .int .i64 (M : Int)] 26) := ⟨_, rfl⟩
  obtain ⟨bx, hbx⟩ : ∃ x, x = w.heap.size := ⟨_, rfl⟩
  rw [← hu, ← hbx] at HB
  rw [← hu] at k0
  rw [← hu, ← hbx]
  have HBX : Hid (bx = w.heap.size ∧ c < w.heap.size) := ⟨hbx, hlt⟩
  clear hu hbx hlt
  refine (HM.out u k0).mono ?_
  rintro e w1 ⟨rfl, hw1⟩
  obtain rfl := hw1.symm
  clear hw1
  go_wp2
  have kd : Kp (fun _ => False) u u.drew := (Kp.refl _ _).drew
  have kwd := k0.trans kd (fun _ _ e => e)
  have dsC : ∃ d, Tryd.prog.underlying 26 = some d ∧ d.isRow = true := ⟨_, Tryd.underlying26, rfl⟩
  have szC : (Tryd.prog.info? 26).map (·.size) = some 2 := by kernel_rfl
  have HLc : Hid (∀ z, Lv z bx [.int .i64 (K : Int), .int .i64 (M : Int)] → (loadVar 26 ⟨bx, 0, none⟩).run Tryd.prog z = .ok (.agg #[.int .i64 (K : Int), .int .i64 (M : Int)]) z) := fun z hz => hz.load dsC szC rfl
  have HSS : Hid (∀ z, Kp (fun _ => False) u z → z.cell? ⟨c, 15, none⟩ = some (.bool false) ∧ z.cell? ⟨c, 4, none⟩ = some (.int .i64 1) ∧ z.cell? ⟨c, 10, none⟩ = some (.int .i64 (n : Int)) ∧ (loadVar 26 ⟨bx, 0, none⟩).run Tryd.prog z = .ok (.agg #[.int .i64 (K : Int), .int .i64 (M : Int)]) z) := fun z kz => by
    obtain ⟨a1, a2, a3⟩ := HS0.out z (k0.trans kz (fun _ _ e => e))
    exact ⟨a1, a2, a3, HLc.out z (HB.out.keep kz id)⟩
  refine pl3_region ⟨by kernel_rfl, by kernel_rfl, by kernel_rfl, by kernel_rfl, by kernel_rfl, by kernel_rfl, by kernel_rfl, by kernel_rfl, by kernel_rfl, by kernel_rfl, by kernel_rfl, by kernel_rfl, by kernel_rfl, by kernel_rfl, by kernel_rfl, by kernel_rfl, by kernel_rfl, by kernel_rfl, by kernel_rfl, by kernel_rfl, by kernel_rfl, by kernel_rfl, by kernel_rfl, by kernel_rfl, by kernel_rfl, by kernel_rfl, by kernel_rfl, by kernel_rfl, by kernel_rfl, by kernel_rfl, by kernel_rfl, by kernel_rfl, by kernel_rfl, by kernel_rfl, by kernel_rfl, by kernel_rfl, by kernel_rfl⟩ c bx K M (n : Int) (.slice p G pc) (fun d _ _ _ _ h => by cases d <;> exact h) (by rfl) (by rfl) (by rfl) (by rfl) (HSS.out _ kd) (fun z => Kp (fun _ => False) u z) ((HPl.out _ kwd).mono ?_) ?_
  · rintro e z ⟨rfl, hz⟩
    obtain rfl := hz.symm
    refine ⟨rfl, HSS.out _ kd, (HFit.out _ kwd).mono ?_⟩
    rintro e z2 ⟨rfl, k2⟩
    have k3 := kd.trans k2 (fun _ _ e => e)
    exact ⟨rfl, HSS.out z2 k3, k3⟩
  intro z hT
  simp only [Act.put, List.setIfInBounds_toArray, List.set_cons_succ, List.set_cons_zero]
  have HZ : Hid (Kp (fun _ => False) u z) := hT
  clear hT kd kwd HSS HPl HFit HM
  go_wp2
  have kd : Kp (fun _ => False) z z.drew := (Kp.refl _ _).drew
  have kuz := HZ.out.trans kd (fun _ _ e => e)
  have kwz := k0.trans kuz (fun _ _ e => e)
  refine pl5_region ⟨by kernel_rfl, by kernel_rfl, by kernel_rfl, by kernel_rfl, by kernel_rfl, by kernel_rfl, by kernel_rfl, by kernel_rfl, by kernel_rfl, by kernel_rfl, by kernel_rfl, by kernel_rfl, by kernel_rfl, by kernel_rfl, by kernel_rfl, by kernel_rfl, by kernel_rfl, by kernel_rfl, by kernel_rfl, by kernel_rfl, by kernel_rfl, by kernel_rfl⟩ c bx K M G 0 none (.slice p G pc) (fun d _ _ _ _ h => by cases d <;> exact h) (by rfl) (by rfl) (by rfl) (by rfl) (HLc.out _ (HB.out.keep kuz id)) (fun y => Kp (fun b => b = c) w y ∧ ∃ q cq, Lv y c (callA self aid now (withCode cm K M) (.slice q G cq) false (.slice wp n wc) (.pointer none) ft) ∧ Fl y (fun b => w.heap.size ≤ b ∧ b < y.heap.size) q (zs.map encI)) ((HCl.out _ kwz).mono ?_) ?_
  · rintro e z9 ⟨q, cq, rfl, k9, hfl⟩
    have kw9 := kwz.trans k9 (fun _ _ e => e)
    have ku9 := kuz.trans k9 (fun _ _ e => e)
    have lc := HL.out.keep kw9 id
    have lb := HB.out.keep ku9 id
    have hbx := HBX.out
    have l1 : Lv (z9.setCell ⟨c, 12, none⟩ (.int .i64 (K : Int))) c (callA self aid now (withCode cm K cm.m) cv false (.slice wp n wc) (.pointer none) ft) := lc.set1 12 _ (show 12 < 19 by omega)
    have l2 : Lv ((z9.setCell ⟨c, 12, none⟩ (.int .i64 (K : Int))).setCell ⟨c, 13, none⟩ (.int .i64 (M : Int))) c (callA self aid now (withCode cm K M) cv false (.slice wp n wc) (.pointer none) ft) := l1.set1 13 _ (show 13 < 19 by omega)
    have l3 : Lv (((z9.setCell ⟨c, 12, none⟩ (.int .i64 (K : Int))).setCell ⟨c, 13, none⟩ (.int .i64 (M : Int))).setCell ⟨c, 14, none⟩ (.slice q G cq)) c (callA self aid now (withCode cm K M) (.slice q G cq) false (.slice wp n wc) (.pointer none) ft) := l2.set1 14 _ (show 14 < 19 by omega)
    have s2 : Kp (fun b => b = c) z9 ((z9.setCell ⟨c, 12, none⟩ (.int .i64 (K : Int))).setCell ⟨c, 13, none⟩ (.int .i64 (M : Int))) := ((Kp.refl (fun b => b = c) z9).setCell (fun _ => rfl) _).setCell (fun _ => rfl) _
    have s3 : Kp (fun b => b = c) z9 (((z9.setCell ⟨c, 12, none⟩ (.int .i64 (K : Int))).setCell ⟨c, 13, none⟩ (.int .i64 (M : Int))).setCell ⟨c, 14, none⟩ (.slice q G cq)) := s2.setCell (fun _ => rfl) _
    have hz1 := kwz.size
    have hz3 := s3.size
    exact ⟨q, cq, _, _, _, rfl, HLc.out _ lb, HLc.out _ (lb.keep s2 (fun e => by omega)), HLc.out _ (lb.keep s3 (fun e => by omega)), lc.cell (j := 12) rfl, lc.fz (j := 12) (show 12 < 19 by omega), lc.cell (j := 13) rfl, lc.fz (j := 13) (show 13 < 19 by omega), l2.cell (j := 14) rfl, l2.fz (j := 14) (show 14 < 19 by omega), (kw9.mono (fun _ _ e => e.elim)).trans s3 (fun _ _ e => e), q, cq, l3, (hfl.keep s3 (fun b hb e => by omega)).mono (fun b hb => by omega)⟩
  intro q0 cq0 z9 hT
  simp only [Act.put, List.setIfInBounds_toArray, List.set_cons_succ, List.set_cons_zero]
  obtain ⟨y, hy⟩ : ∃ y, y = (((z9.setCell ⟨c, 12, none⟩ (.int .i64 (K : Int))).setCell ⟨c, 13, none⟩ (.int .i64 (M : Int))).setCell ⟨c, 14, none⟩ (.slice q0 G cq0)) := ⟨_, rfl⟩
  rw [← hy] at hT ⊢
  obtain ⟨kwy, q, cq, lc, hfl⟩ := hT
  have HY : Hid (Kp (fun b => b = c) w y ∧ Lv y c (callA self aid now (withCode cm K M) (.slice q G cq) false (.slice wp n wc) (.pointer none) ft) ∧ Fl y (fun b => w.heap.size ≤ b ∧ b < y.heap.size) q (zs.map encI)) := ⟨kwy, lc, hfl⟩
  clear hy kwy lc hfl kd kuz kwz HZ HCl
  go_wp2
  obtain ⟨kwy, lc, hfl⟩ := HY.out
  obtain ⟨hw, hwb, hn, h1, h3, hp, hgc, hG⟩ := HV.out
  have kd : Kp (fun _ => False) y y.drew := (Kp.refl _ _).drew
  have lcd := lc.keep kd id
  have hbx := HBX.out
  have hwy := kwy.size
  have hds : y.drew.heap.size = y.heap.size := rfl
  have hcut := cut_put (K := K) (M := M) lcd ((hw.keep kwy (fun a ha _ e => hwb a ha e)).keep0 kd) hn rfl rfl h1 h3 (pows_keep (pows_keep hp kwy hgc) kd id) q cq zs _ (hfl.keep kd (fun _ _ => id)) hG
  rw [← HGG.out] at hcut
  refine pl6_region ⟨by kernel_rfl, by kernel_rfl, by kernel_rfl, by kernel_rfl, by kernel_rfl, by kernel_rfl, by kernel_rfl, by kernel_rfl, by kernel_rfl, by kernel_rfl, by kernel_rfl, by kernel_rfl, by kernel_rfl⟩ c (cmdA (withCode cm K M) (.slice q G cq)) (fun d _ _ _ _ h => by cases d <;> exact h) (by rfl) (by rfl) (call_cmd lcd) (fun z => Kp (fun b => b = c) w z ∧ ∃ sp t B, Lv z c (callA self aid now (withCode cm K M) (.slice q G cq) false (.slice none 0 0) (.pointer (some ⟨sp, 0, none⟩)) ft) ∧ Sto z w.heap.size sp cm.id G zs t B (Mf.lenOf K n) (Mf.enc K (Mf.cutAt K (fun i => xs.getD i 0) n)) ∧ Fl z (fun b => w.heap.size ≤ b) q (zs.map encI)) (hcut.mono ?_) ?_
  · rintro e z ⟨rfl, kz, sp, t, B, lz, st⟩
    refine ⟨rfl, call_cmd lz, (kwy.trans kd (fun _ _ e => e.elim)).trans kz (fun _ _ e => e), sp, t, B, lz, ⟨?_, st.m, ⟨by have := st.b.1; omega, by have := st.b.2.1; omega, fun i hi => by have := st.b.2.2 i hi; omega⟩, st.g⟩, ((hfl.keep kd (fun _ _ => id)).keep kz (fun b hb e => by omega)).mono (fun b hb => hb.1)⟩
    obtain ⟨q2, c2, a1, a2⟩ := st.s
    exact ⟨q2, c2, a1, a2.mono (fun b hb => by omega)⟩
  intro z hT
  simp only [Act.put, List.setIfInBounds_toArray, List.set_cons_succ, List.set_cons_zero]
  have HT : Hid (Kp (fun b => b = c) w z ∧ ∃ sp t B, Lv z c (callA self aid now (withCode cm K M) (.slice q G cq) false (.slice none 0 0) (.pointer (some ⟨sp, 0, none⟩)) ft) ∧ Sto z w.heap.size sp cm.id G zs t B (Mf.lenOf K n) (Mf.enc K (Mf.cutAt K (fun i => xs.getD i 0) n)) ∧ Fl z (fun b => w.heap.size ≤ b) q (zs.map encI)) := hT
  clear hT hcut kd lcd kwy lc hfl HY
  go_wp2
  go_ret
  obtain ⟨kz, sp, t, B, lz, st, fz⟩ := HT.out
  exact ⟨rfl, kz, q, cq, sp, t, B, lz, st, fz⟩
end Go.Proofs.YtmncocmeafcpfaaDoor
