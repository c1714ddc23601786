/- Texts of this proof, joined: Zf, Zg, Zh, Zi. -/
import Derived.Test.YtmncocmeafcpfaaDoorMgAR
import Derived.Test.YtmncocmeafcpfaaDoorMgAS
import Derived.Test.YtmncocmeafcpfaaDoorMgAT
/- A put's beginning: coord.New of a put; whether a message is of a shard. -/
namespace Go.Proofs.YtmncocmeafcpfaaDoor
set_option linter.unusedVariables false
set_option linter.unusedSimpArgs false
open Go.RowKit Go.Deep

abbrev askPut (aid : Int) (p : Option Addr) (n c : Nat) : Array Value := #[.int .i64 aid, .int .i64 1, .string keyA, .slice p n c]
abbrev cmPut (nid : Int) (n : Nat) (sm : Int) (K M : Int) : Cs0 := ⟨nid, 1, keyA, 0, 0, 0, 0, (n : Int), sm, K, M⟩
set_option maxRecDepth 100000 in
set_option maxHeartbeats 800000 in
theorem may_put (aid : Int) (p : Option Addr) (n c : Nat) (w : World) (hn : (n : Int) ≤ 400) : Calls Tryd.prog 68 #[.agg (askPut aid p n c)] w fun e w' => e = .returned (.bool true) ∧ Kp (fun _ => False) w w' := by
  have H1 : Hid (∀ u, Calls _ _ _ u _) := fun u => cmdOf_put u
  have H2 : Hid (∀ u, Calls _ _ _ u _) := fun u => key_a u
  go_enter Tryd.func68, Tryd.ntmps68
  go_wp2_with (first
    | (go_at_call 69; refine (H1.out _).mono ?_; rintro e w1 ⟨rfl, hw1⟩; subst hw1)
    | (go_at_call 100; refine (H2.out _).mono ?_; rintro e w1 ⟨rfl, hw1⟩; subst hw1))
  go_ret
  exact ⟨by simp, (Kp.refl _ _).alloc _⟩
set_option maxRecDepth 100000 in
set_option maxHeartbeats 3200000 in
theorem new_put (self aid : Int) (p : Option Addr) (n c : Nat) (xs : List Nat) (w : World) (hself : 0 ≤ self ∧ self < 16) (h : Rb w p n xs) (hn : (n : Int) ≤ 400) (ht : Turns w) :
    Calls Tryd.prog 34 #[.int .i64 self, .agg (askPut aid p n c), .int .i64 9, .int .i64 0] w fun e w' => ∃ cb wp wc, e = .returned (.tuple #[.pointer (some ⟨cb, 0, none⟩), .int .i64 0]) ∧ Kp (fun _ => False) w w' ∧ w.heap.size ≤ cb ∧
      Lv w' cb (callA self aid 0 (cmPut 9 n (Crc.sum xs : Nat) 0 0) (.slice none 0 0) false (.slice wp n wc) (.pointer none) (.pointer none)) ∧ Rb w' wp n xs ∧ n ≤ wc ∧ (∀ a, wp = some a → w.heap.size ≤ a.block ∧ a.block ≠ cb ∧ a.block < w'.heap.size) := by
  have H1 : Hid (∀ u, Calls Tryd.prog 48 #[.int .i64 self] u fun e w' => e = .returned (.bool true) ∧ w' = u) := fun u => by
    have := isNode_ok self u
    rw [show (decide (0 ≤ self) && decide (self < 16)) = true by simp [hself.1, hself.2]] at this
    exact this
  have H2 : Hid (∀ u, Calls _ _ _ u _) := fun u => may_put aid p n c u hn
  have H3 : Hid (∀ u, Calls _ _ _ u _) := fun u => cmdOf_put u
  have HS : Hid (∀ u, Kp (fun _ => False) w u → Calls _ _ _ u _) := fun u k => sum_any p n c xs u (h.keep0 k) (by omega) (ht.keep0 k)
  have HR : Hid (Rb w p n xs ∧ n ≤ 400) := ⟨h, by omega⟩
  have k0 : Kp (fun _ => False) w (w.alloc (.cells (askPut aid p n c) 81)) := (Kp.refl _ _).alloc _
  have HL : Hid (Lv (w.alloc (.cells (askPut aid p n c) 81)) w.heap.size (askPut aid p n c).toList) := Lv.new w _ _
  clear h hn ht hself
  go_enter Tryd.func34, Tryd.ntmps34
  go_wp2_with (first
    | (go_at_call 48; refine (H1.out _).mono ?_; rintro e w1 ⟨rfl, hw1⟩; subst hw1)
    | (go_at_call 68; refine (H2.out _).mono ?_; rintro e w1 ⟨rfl, k1⟩))
  have kd : Kp (fun _ => False) (w.alloc (.cells (askPut aid p n c) 81)) w1.drew := k1.drew
  have l1 : Lv w1.drew w.heap.size (askPut aid p n c).toList := HL.out.keep kd id
  have ka : Kp (fun _ => False) w1.drew (w1.drew.alloc (.cells #[.int .i64 self, .int .i64 aid, .int .i64 0, .int .i64 9, .int .i64 1, .string keyA, .int .i64 0, .int .i64 0, .int .i64 0, .int .i64 0, .int .i64 0, .int .u32 0, .int .i64 0, .int .i64 0, .slice none 0 0, .bool false, .slice none 0 0, .pointer none, .pointer none] 106)) := (Kp.refl _ _).alloc _
  have l2 := l1.keep ka id
  refine cn3_region ⟨by kernel_rfl, by kernel_rfl, by kernel_rfl, by kernel_rfl, by kernel_rfl, by kernel_rfl, by kernel_rfl, by kernel_rfl, by kernel_rfl, by kernel_rfl, by kernel_rfl, by kernel_rfl, by kernel_rfl, by kernel_rfl, by kernel_rfl, by kernel_rfl, by kernel_rfl, by kernel_rfl, by kernel_rfl, by kernel_rfl, by kernel_rfl, by kernel_rfl⟩ w.heap.size self aid 1 1 9 0 keyA (fun d _ _ _ _ h => by cases d <;> exact h) (by rfl) (by rfl) (by rfl) (by rfl) (by rfl) ⟨l1.cell (j := 0) rfl, l1.cell (j := 1) rfl, l1.cell (j := 2) rfl⟩ ⟨l2.cell (j := 0) rfl, l2.cell (j := 1) rfl, l2.cell (j := 2) rfl⟩ (H3.out _) ?_
  simp only [Act.put, List.setIfInBounds_toArray, List.set_cons_succ, List.set_cons_zero]
  have d1 := l2.cell (j := 1) rfl
  have hl : Lv (w1.drew.alloc (.cells #[.int .i64 self, .int .i64 aid, .int .i64 0, .int .i64 9, .int .i64 1, .string keyA, .int .i64 0, .int .i64 0, .int .i64 0, .int .i64 0, .int .i64 0, .int .u32 0, .int .i64 0, .int .i64 0, .slice none 0 0, .bool false, .slice none 0 0, .pointer none, .pointer none] 106)) w1.drew.heap.size (callA self aid 0 ⟨9, 1, keyA, 0, 0, 0, 0, 0, 0, 0, 0⟩ (.slice none 0 0) false (.slice none 0 0) (.pointer none) (.pointer none)) := Lv.new w1.drew _ _
  have hk := (k0.trans kd (fun _ _ e => e)).trans ka (fun _ _ e => e)
  have hsz := (k0.trans kd (fun _ _ e => e)).size
  have hbx : w.heap.size < w1.drew.heap.size := by have := kd.size; simp only [World.alloc, Array.size_push] at this; omega
  obtain ⟨z, hz⟩ : ∃ x, x = (w1.drew.alloc (.cells #[.int .i64 self, .int .i64 aid, .int .i64 0, .int .i64 9, .int .i64 1, .string keyA, .int .i64 0, .int .i64 0, .int .i64 0, .int .i64 0, .int .i64 0, .int .u32 0, .int .i64 0, .int .i64 0, .slice none 0 0, .bool false, .slice none 0 0, .pointer none, .pointer none] 106)) := ⟨_, rfl⟩
  rw [← hz] at hl hk d1 l2 ⊢
  obtain ⟨g, hg⟩ : ∃ g, g = w1.drew.heap.size := ⟨_, rfl⟩
  rw [← hg] at hl hsz hbx ⊢
  have HH : Hid (Lv z g (callA self aid 0 ⟨9, 1, keyA, 0, 0, 0, 0, 0, 0, 0, 0⟩ (.slice none 0 0) false (.slice none 0 0) (.pointer none) (.pointer none)) ∧ Kp (fun _ => False) w z ∧ w.heap.size < g ∧ Lv z w.heap.size (askPut aid p n c).toList) := ⟨hl, hk, hbx, l2⟩
  clear hg hl hk hsz hz l2 ka l1 kd k1 hbx HL k0
  obtain ⟨bx, hbx⟩ : ∃ bx, bx = w.heap.size := ⟨_, rfl⟩
  rw [← hbx] at HH d1 ⊢
  have HBX : Hid (bx = w.heap.size) := hbx
  clear hbx
  go_wp2
  have kd : Kp (fun _ => False) z z.drew := (Kp.refl _ _).drew
  obtain ⟨hl, hk, hbg, lb⟩ := HH.out
  have hl0 : Lv z.drew g _ := hl.keep kd id
  have lb0 : Lv z.drew bx _ := lb.keep kd id
  have hl1 : Lv (z.drew.setCell ⟨g, 10, none⟩ (.int .i64 (n : Int))) g (callA self aid 0 ⟨9, 1, keyA, 0, 0, 0, 0, (n : Int), 0, 0, 0⟩ (.slice none 0 0) false (.slice none 0 0) (.pointer none) (.pointer none)) := hl0.set1 10 (.int .i64 (n : Int)) (show 10 < 19 by omega)
  have hl2 : Lv ((z.drew.setCell ⟨g, 10, none⟩ (.int .i64 (n : Int))).setCell ⟨g, 11, none⟩ (.int .u32 ((Crc.sum xs : Nat) : Int))) g (callA self aid 0 (cmPut 9 n (Crc.sum xs : Nat) 0 0) (.slice none 0 0) false (.slice none 0 0) (.pointer none) (.pointer none)) := hl1.set1 11 (.int .u32 ((Crc.sum xs : Nat) : Int)) (show 11 < 19 by omega)
  have ks1 : Kp (fun b => b = g) z.drew (z.drew.setCell ⟨g, 10, none⟩ (.int .i64 (n : Int))) := (Kp.refl (fun b => b = g) _).setCell (fun _ => rfl) _
  have ks2 : Kp (fun b => b = g) z.drew ((z.drew.setCell ⟨g, 10, none⟩ (.int .i64 (n : Int))).setCell ⟨g, 11, none⟩ (.int .u32 ((Crc.sum xs : Nat) : Int))) := ks1.setCell (fun _ => rfl) _
  have lb1 := lb0.keep ks1 (fun e => by omega)
  have lb2 := lb0.keep ks2 (fun e => by omega)
  refine cn5_region ⟨by kernel_rfl, by kernel_rfl, by kernel_rfl, by kernel_rfl, by kernel_rfl, by kernel_rfl, by kernel_rfl, by kernel_rfl, by kernel_rfl, by kernel_rfl, by kernel_rfl, by kernel_rfl, by kernel_rfl, by kernel_rfl, by kernel_rfl, by kernel_rfl, by kernel_rfl, by kernel_rfl, by kernel_rfl, by kernel_rfl, by kernel_rfl, by kernel_rfl, by kernel_rfl, by kernel_rfl, by kernel_rfl⟩ bx g n c p ((Crc.sum xs : Nat) : Int) (.int .i64 0) (.int .u32 0) (fun d _ _ _ _ h => by cases d <;> exact h) (by rfl) (by rfl) (by rfl) (lb0.cell (j := 3) rfl) (lb1.cell (j := 3) rfl) (lb2.cell (j := 3) rfl) (hl0.cell (j := 10) rfl) (hl0.fz (j := 10) (show 10 < 19 by omega)) (hl1.cell (j := 11) rfl) (hl1.fz (j := 11) (show 11 < 19 by omega)) (HS.out _ (hk.trans kd (fun _ _ e => e))) ?_
  simp only [Act.put, List.setIfInBounds_toArray, List.set_cons_succ, List.set_cons_zero]
  have kw2 : Kp (fun b => b = g) w ((z.drew.setCell ⟨g, 10, none⟩ (.int .i64 (n : Int))).setCell ⟨g, 11, none⟩ (.int .u32 ((Crc.sum xs : Nat) : Int))) := ((hk.trans kd (fun _ _ e => e)).mono (fun _ _ e => e.elim)).trans ks2 (fun _ _ e => e)
  obtain ⟨y, hy⟩ : ∃ x, x = ((z.drew.setCell ⟨g, 10, none⟩ (.int .i64 (n : Int))).setCell ⟨g, 11, none⟩ (.int .u32 ((Crc.sum xs : Nat) : Int))) := ⟨_, rfl⟩
  rw [← hy] at hl2 kw2 lb2 ⊢
  have hb3 := lb2.cell (j := 3) rfl
  have HKW : Hid (Kp (fun _ => False) w y ∧ w.heap.size < g) := by
    have := HBX.out
    exact ⟨kw2.mono (fun b hb e => by omega), by omega⟩
  have HC : Hid (Calls _ _ _ y _) := clone_any p n c xs y (HR.out.1.keep0 HKW.out.1) (by have := HR.out.2; show _ ≤ _; omega)
  have HLy : Hid (Lv y g (callA self aid 0 (cmPut 9 n (Crc.sum xs : Nat) 0 0) (.slice none 0 0) false (.slice none 0 0) (.pointer none) (.pointer none)) ∧ xs.length = n) := ⟨hl2, HR.out.1.1⟩
  clear hy hl hk hbg lb hl0 lb0 hl1 hl2 ks1 ks2 lb1 lb2 kw2 kd HH HS H1 H2 H3
  go_wp2_with fail
  refine HC.out.mono ?_
  rintro e y1 ⟨v, rfl, k1, hown⟩
  have h256 : ∀ x ∈ xs, x < 256 := fun x hx => by
    obtain ⟨j, hj, e⟩ := List.getElem_of_mem hx
    have := HR.out.1.byteAt j
    rw [List.getD_eq_getElem?_getD, List.getElem?_eq_getElem hj, e] at this
    exact this
  obtain ⟨wp, wc, rfl, hwc, hrb, hwp⟩ := hown.rb h256
  have hlen : xs.length = n := HLy.out.2
  rw [hlen] at hwc hrb ⊢
  have l5 := HLy.out.1.keep k1 id
  have c16 := l5.cell (j := 16) rfl
  have f16 := l5.fz (j := 16) (show 16 < 19 by omega)
  have hg1 : g < y.heap.size := HLy.out.1.lt (by simp)
  have HF : Hid (Lv (y1.setCell ⟨g, 16, none⟩ (.slice wp n wc)) g (callA self aid 0 (cmPut 9 n (Crc.sum xs : Nat) 0 0) (.slice none 0 0) false (.slice wp n wc) (.pointer none) (.pointer none)) ∧ Kp (fun _ => False) w (y1.setCell ⟨g, 16, none⟩ (.slice wp n wc)) ∧ Rb (y1.setCell ⟨g, 16, none⟩ (.slice wp n wc)) wp n xs ∧ n ≤ wc ∧ (∀ a, wp = some a → w.heap.size ≤ a.block ∧ a.block ≠ g ∧ a.block < (y1.setCell ⟨g, 16, none⟩ (.slice wp n wc)).heap.size)) := by
    have ks : Kp (fun b => b = g) y1 (y1.setCell ⟨g, 16, none⟩ (.slice wp n wc)) := (Kp.refl (fun b => b = g) y1).setCell (fun _ => rfl) _
    have h1 := HKW.out
    have h2 := h1.1.size
    have h3 := ks.size
    have hap : ∀ a, wp = some a → y.heap.size ≤ a.block ∧ a.block < y1.heap.size := fun a ha => by
      exact ⟨(hwp a ha).1, (ownBlock_lt hown (hwp a ha).2).2⟩
    refine ⟨l5.set1 16 _ (show 16 < 19 by omega), (h1.1.trans k1 (fun _ _ e => e)).trans ks (fun b hb e => by omega), hrb.keep ks (fun a ha _ e => by have := hap a ha; omega), hwc, fun a ha => ?_⟩
    have := hap a ha
    exact ⟨by omega, by omega, by omega⟩
  clear l5 hown hrb hwp hwc k1 HLy HC hb3 d1
  go_wp2
  go_ret2
  exact ⟨g, wp, wc, rfl, HF.out.2.1, by have := HKW.out; omega, HF.out.1, HF.out.2.2.1, HF.out.2.2.2.1, HF.out.2.2.2.2⟩
end Go.Proofs.YtmncocmeafcpfaaDoor

/- A put that is placed: shards.NewStore, cut, Place (laid by scripts/mkzg.py). -/
namespace Go.Proofs.YtmncocmeafcpfaaDoor
set_option linter.unusedVariables false
set_option linter.unusedSimpArgs false
open Go.RowKit Go.Deep

set_option maxRecDepth 100000 in
set_option maxHeartbeats 1600000 in
theorem newStore_ok (bl : Int) (G cq t gc : Nat) (q : Option Addr) (Z : Nat → Prop) (zs : List Int) (w : World) (hf : Fl w Z q (zs.map encI)) (hG : G = zs.length) (hn : G ≤ 1000) :
    Calls Tryd.prog 102 #[.int .i64 bl, .slice q G cq, .slice (some ⟨t, 0, none⟩) G gc] w fun e w' => ∃ sp q2 c2, e = .returned (.pointer (some ⟨sp, 0, none⟩)) ∧ Kp (fun _ => False) w w' ∧ w.heap.size ≤ sp ∧ sp < w'.heap.size ∧ Lv w' sp [.int .i64 bl, .slice q2 G c2, .slice (some ⟨t, 0, none⟩) G gc, .int .i64 (G : Int)] ∧ Fl w' (fun b => w.heap.size ≤ b ∧ b < sp) q2 (zs.map encI) := by
  have HC : Hid (Calls Tryd.prog 73 #[.slice q G cq] w fun e w' => ∃ v, e = .returned v ∧ Kp (fun _ => False) w w' ∧ w'.ownsRow w.heap.size 3 1 v zs.length (zs.map encI)) := by
    have := clone_ints Z q cq zs w hf (by show _ ≤ _; omega)
    rw [← hG] at this
    rw [← hG]
    exact this
  have HG : Hid (G = zs.length) := hG
  clear hf hG hn
  go_enter Tryd.func102, Tryd.ntmps102
  go_wp2_with fail
  refine HC.out.mono ?_
  rintro e w1 ⟨v, rfl, k1, ho⟩
  obtain ⟨q2, c2, rfl, hfl⟩ := own_fl ho
  rw [← HG.out] at ho ⊢
  have HFl : Hid (Fl w1 (fun b => w.heap.size ≤ b ∧ b < w1.heap.size) q2 (zs.map encI)) := hfl
  have hl : Lv (w1.alloc (.cells #[.int .i64 bl, .slice q2 G c2, .slice (some ⟨t, 0, none⟩) G gc, .int .i64 (G : Int)] 150)) w1.heap.size [.int .i64 bl, .slice q2 G c2, .slice (some ⟨t, 0, none⟩) G gc, .int .i64 (G : Int)] := Lv.new w1 _ _
  have HL : Hid (Lv (w1.alloc (.cells #[.int .i64 bl, .slice q2 G c2, .slice (some ⟨t, 0, none⟩) G gc, .int .i64 (G : Int)] 150)) w1.heap.size [.int .i64 bl, .slice q2 G c2, .slice (some ⟨t, 0, none⟩) G gc, .int .i64 (G : Int)]) := hl
  have HK : Hid (Kp (fun _ => False) w w1) := k1
  clear hfl ho hl k1 HC
  go_wp2
  go_ret
  have ka : Kp (fun _ => False) w1 (w1.alloc (.cells #[.int .i64 bl, .slice q2 G c2, .slice (some ⟨t, 0, none⟩) G gc, .int .i64 (G : Int)] 150)) := (Kp.refl _ _).alloc _
  exact ⟨w1.heap.size, q2, c2, rfl, HK.out.trans ka (fun _ _ e => e), HK.out.size, HL.out.lt (by simp), HL.out, HFl.out.keep ka (fun _ _ => id)⟩

/-- a store of shards: none is stored -/
structure Sto (w : World) (base sp : Nat) (bl : Int) (G : Nat) (zs : List Int) (t : Nat) (B : Nat → Nat) (N : Nat) (X : Nat → Nat → Nat) : Prop where
  s : ∃ q2 c2, Lv w sp [.int .i64 bl, .slice q2 G c2, .slice (some ⟨t, 0, none⟩) G G, .int .i64 (G : Int)] ∧ Fl w (fun b => base ≤ b) q2 (zs.map encI)
  m : Mf.Mat w t B G N X
  b : base ≤ sp ∧ base ≤ t ∧ ∀ i, i < G → base ≤ B i
  g : G = zs.length
theorem Sto.keep {S : Nat → Prop} {w w' : World} {base sp : Nat} {bl : Int} {G : Nat} {zs : List Int} {t : Nat} {B : Nat → Nat} {N : Nat} {X : Nat → Nat → Nat} (h : Sto w base sp bl G zs t B N X) (k : Kp S w w') (hS : ∀ b, base ≤ b → ¬ S b) : Sto w' base sp bl G zs t B N X := by
  obtain ⟨q2, c2, h1, h2⟩ := h.s
  exact ⟨⟨q2, c2, h1.keep k (hS _ h.b.1), h2.keep k (fun b hb => hS b hb)⟩, h.m.keep (kp_to k) (hS _ h.b.2.1) (fun i hi => hS _ (h.b.2.2 i hi)), h.b, h.g⟩

set_option maxRecDepth 100000 in
set_option maxHeartbeats 3200000 in
theorem cut_put {w : World} {c : Nat} {self aid now : Int} {cm : Cs0} {cv : Value} {dn : Bool} {ft : Value} {wp : Option Addr} {n wc K M : Nat} {xs : List Nat} (h : Lv w c (callA self aid now cm cv dn (.slice wp n wc) (.pointer none) ft))
    (hw : Rb w wp n xs) (hn : (n : Int) ≤ 400) (hk1 : cm.k = (K : Int)) (hm1 : cm.m = (M : Int)) (h1 : 1 ≤ (K : Int)) (h3 : (M : Int) ≤ 255 - (K : Int)) (hp : Mf.Pows w) (q : Option Addr) (cq : Nat) (zs : List Int) (Y : Nat → Prop) (hf : Fl w Y q (zs.map encI)) (hG : K + M = zs.length) :
    Calls Tryd.prog 74 #[.pointer (some ⟨c, 16, none⟩), .agg (cmdA cm (.slice q (K + M) cq))] w fun e w' => e = .returned (.tuple #[]) ∧ Kp (fun b => b = c) w w' ∧ ∃ sp t B, Lv w' c (callA self aid now cm cv dn (.slice none 0 0) (.pointer (some ⟨sp, 0, none⟩)) ft) ∧ Sto w' w.heap.size sp cm.id (K + M) zs t B (Mf.lenOf K n) (Mf.enc K (Mf.cutAt K (fun i => xs.getD i 0) n)) := by
  have k0 : Kp (fun _ => False) w (w.alloc (.cells (cmdA cm (.slice q (K + M) cq)) 42)) := (Kp.refl _ _).alloc _
  have HB : Hid (Lv (w.alloc (.cells (cmdA cm (.slice q (K + M) cq)) 42)) w.heap.size (cmdA cm (.slice q (K + M) cq)).toList) := Lv.new w _ _
  have HL : Hid (Lv w c (callA self aid now cm cv dn (.slice wp n wc) (.pointer none) ft)) := h
  have HCut : Hid (∀ u, Kp (fun _ => False) w u → Calls _ _ _ u _) := fun u k => cut_ok K M n wc wp xs u (hw.keep0 k) h1 h3 hn (pows_keep hp k id)
  have HNS : Hid (∀ (t : Nat) u, Kp (fun _ => False) w u → Calls Tryd.prog 102 #[.int .i64 cm.id, .slice q (K + M) cq, .slice (some ⟨t, 0, none⟩) (K + M) (K + M)] u _) := fun t u k => newStore_ok cm.id (K + M) cq t (K + M) q Y zs u (hf.keep k (fun _ _ => id)) hG (by omega)
  have HK : Hid (cm.k = (K : Int) ∧ cm.m = (M : Int) ∧ K + M = zs.length) := ⟨hk1, hm1, hG⟩
  obtain ⟨ca, hca⟩ : ∃ ca : Array Value, ca = cmdA cm (.slice q (K + M) cq) := ⟨_, rfl⟩
  have HCA : Hid (ca = cmdA cm (.slice q (K + M) cq)) := hca
  rw [← hca] at HB k0 ⊢
  clear h hw hn hk1 hm1 h1 h3 hp hf hG hca
  go_enter Tryd.func74, Tryd.ntmps74
  go_wp2
  obtain ⟨u, hu⟩ : ∃ x, x = w.alloc (.cells ca 42) := ⟨_, rfl⟩
  obtain ⟨bx, hbx⟩ : ∃ x, x = w.heap.size := ⟨_, rfl⟩
  have hlt : c < w.heap.size := HL.out.lt (by simp)
  rw [← hu, ← hbx] at HB
  rw [← hu] at k0
  rw [← hu, ← hbx]
  have HBX : Hid (bx = w.heap.size ∧ c < w.heap.size) := ⟨hbx, hlt⟩
  clear hu hbx hlt
  have kd : Kp (fun _ => False) u u.drew := (Kp.refl _ _).drew
  have kwd := k0.trans kd (fun _ _ e => e)
  obtain ⟨dc, hd1, hd2⟩ := (⟨_, Tryd.underlying26, rfl⟩ : ∃ d, Tryd.prog.underlying 26 = some d ∧ d.isRow = true)
  have hszc : (Tryd.prog.info? 26).map (·.size) = some 2 := by kernel_rfl
  have HSS : Hid (∀ z, Kp (fun _ => False) u z → (loadVar 26 ⟨bx, 9, none⟩).run Tryd.prog z = .ok (.agg #[.int .i64 (K : Int), .int .i64 (M : Int)]) z ∧ z.cell? ⟨c, 16, none⟩ = some (.slice wp n wc)) := fun z kz => by
    have lb := HB.out.keep kz id
    rw [HCA.out] at lb
    have hr : z.rangeAt bx 9 [.int .i64 (K : Int), .int .i64 (M : Int)] := fun j u hu => by
      rcases j with _ | _ | j
      · simp at hu
        subst hu
        have := lb.cell (j := 9) rfl
        rw [HK.out.1] at this
        exact this
      · simp at hu
        subst hu
        have := lb.cell (j := 10) rfl
        rw [HK.out.2.1] at this
        exact this
      · simp at hu
    exact ⟨run_loadVar_mid z bx 9 _ _ dc hr hd1 hd2 (by rw [hszc]; rfl), ((HL.out.keep k0 id).keep kz id).cell (j := 16) rfl⟩
  refine ct1_region ⟨by kernel_rfl, by kernel_rfl, by kernel_rfl, by kernel_rfl, by kernel_rfl, by kernel_rfl, by kernel_rfl, by kernel_rfl, by kernel_rfl, by kernel_rfl, by kernel_rfl, by kernel_rfl, by kernel_rfl, by kernel_rfl, by kernel_rfl, by kernel_rfl, by kernel_rfl, by kernel_rfl⟩ c bx K M n wc 0 wp (fun d _ _ _ _ h => by cases d <;> exact h) (by rfl) (by rfl) (by rfl) (HSS.out _ kd) (fun t z => Kp (fun _ => False) u z ∧ w.heap.size ≤ t ∧ ∃ B, (∀ i, i < K + M → w.heap.size ≤ B i) ∧ Mf.Mat z t B (K + M) (Mf.lenOf K n) (Mf.enc K (Mf.cutAt K (fun i => xs.getD i 0) n))) ((HCut.out _ kwd).mono ?_) ?_
  · rintro e z ⟨t, B, rfl, kz, ht, hB, hM⟩
    have kuz := kd.trans kz (fun _ _ e => e)
    have hwz := kwd.size
    exact ⟨t, rfl, HSS.out z kuz, kuz, by omega, B, fun i hi => by have := hB i hi; omega, hM⟩
  intro t z hT
  simp only [Act.put, List.setIfInBounds_toArray, List.set_cons_succ, List.set_cons_zero]
  obtain ⟨kuz, ht, B, hB, hM⟩ := hT
  have kwz := k0.trans kuz (fun _ _ e => e)
  have lb := HB.out.keep kuz id
  rw [HCA.out] at lb
  have b0 := lb.cell (j := 0) rfl
  have b11 := lb.cell (j := 11) rfl
  have lc := HL.out.keep kwz id
  have HZ : Hid (Kp (fun _ => False) w z ∧ w.heap.size ≤ t ∧ (∀ i, i < K + M → w.heap.size ≤ B i) ∧ Mf.Mat z t B (K + M) (Mf.lenOf K n) (Mf.enc K (Mf.cutAt K (fun i => xs.getD i 0) n)) ∧ Lv z c (callA self aid now cm cv dn (.slice wp n wc) (.pointer none) ft)) := ⟨kwz, ht, hB, hM, lc⟩
  have HN : Hid (Calls _ _ _ z _) := HNS.out t z kwz
  clear kuz ht hB hM kwz lb lc HSS kd kwd HCut HNS
  go_wp2_with fail
  refine HN.out.mono ?_
  rintro e z1 ⟨sp, q2, c2, rfl, k1, hsp, hsp2, lsp, hfl⟩
  have l1 := HZ.out.2.2.2.2.keep k1 id
  have c16 := l1.cell (j := 16) rfl
  have c17 := l1.cell (j := 17) rfl
  have f16 := l1.fz (j := 16) (show 16 < 19 by omega)
  have f17 := l1.fz (j := 17) (show 17 < 19 by omega)
  have HF : Hid (Lv ((z1.setCell ⟨c, 16, none⟩ (.slice none 0 0)).setCell ⟨c, 17, none⟩ (.pointer (some ⟨sp, 0, none⟩))) c (callA self aid now cm cv dn (.slice none 0 0) (.pointer (some ⟨sp, 0, none⟩)) ft) ∧ Kp (fun b => b = c) w ((z1.setCell ⟨c, 16, none⟩ (.slice none 0 0)).setCell ⟨c, 17, none⟩ (.pointer (some ⟨sp, 0, none⟩))) ∧ Sto ((z1.setCell ⟨c, 16, none⟩ (.slice none 0 0)).setCell ⟨c, 17, none⟩ (.pointer (some ⟨sp, 0, none⟩))) w.heap.size sp cm.id (K + M) zs t B (Mf.lenOf K n) (Mf.enc K (Mf.cutAt K (fun i => xs.getD i 0) n))) := by
    have l2 : Lv (z1.setCell ⟨c, 16, none⟩ (.slice none 0 0)) c (callA self aid now cm cv dn (.slice none 0 0) (.pointer none) ft) := l1.set1 16 (.slice none 0 0) (show 16 < 19 by omega)
    have ks : Kp (fun b => b = c) z1 ((z1.setCell ⟨c, 16, none⟩ (.slice none 0 0)).setCell ⟨c, 17, none⟩ (.pointer (some ⟨sp, 0, none⟩))) := ((Kp.refl (fun b => b = c) z1).setCell (fun _ => rfl) _).setCell (fun _ => rfl) _
    obtain ⟨kwz, ht, hB, hM, _⟩ := HZ.out
    have hwz := kwz.size
    have hbx := HBX.out
    have s1 : Sto z1 w.heap.size sp cm.id (K + M) zs t B (Mf.lenOf K n) (Mf.enc K (Mf.cutAt K (fun i => xs.getD i 0) n)) := ⟨⟨q2, c2, lsp, hfl.mono (fun b hb => by omega)⟩, hM.keep (kp_to k1) id (fun _ _ => id), ⟨by omega, ht, hB⟩, HK.out.2.2⟩
    exact ⟨l2.set1 17 _ (show 17 < 19 by omega), ((kwz.trans k1 (fun _ _ e => e)).mono (fun _ _ e => e.elim)).trans ks (fun _ _ e => e), s1.keep ks (fun b hb e => by omega)⟩
  clear l1 k1 hsp hsp2 lsp hfl HZ HN b0 b11
  go_wp2
  go_end0
  exact ⟨rfl, HF.out.2.1, sp, t, B, HF.out.1, HF.out.2.2⟩
end Go.Proofs.YtmncocmeafcpfaaDoor

/- A put is placed (laid by scripts/mkzh.py). -/
namespace Go.Proofs.YtmncocmeafcpfaaDoor
set_option linter.unusedVariables false
set_option linter.unusedSimpArgs false
open Go.RowKit Go.Deep

theorem call_cmd {w : World} {c : Nat} {self aid now : Int} {cm : Cs0} {cv : Value} {dn : Bool} {wh st ft : Value} (h : Lv w c (callA self aid now cm cv dn wh st ft)) : (loadVar 42 ⟨c, 3, none⟩).run Tryd.prog w = .ok (.agg (cmdA cm cv)) w := by
  obtain ⟨dc, hdc1, hdc2⟩ := dsCmd
  refine run_loadVar_mid w c 3 42 (cmdA cm cv).toList dc (fun j u hu => ?_) hdc1 hdc2 (by rw [szCmd]; rfl)
  have hj : j < 12 := by have := (List.getElem?_eq_some_iff.1 hu).1; simpa using this
  have := h.r (3 + j) u (by rw [← hu]; rcases j with _ | _ | _ | _ | _ | _ | _ | _ | _ | _ | _ | _ | j <;> first | rfl | omega)
  rwa [Nat.zero_add] at this
/-- a command with its code -/
abbrev withCode (cm : Cs0) (K M : Int) : Cs0 := ⟨cm.id, cm.kind, cm.key, cm.blob, cm.other, cm.index, cm.node, cm.size, cm.sum, K, M⟩

set_option maxRecDepth 100000 in
set_option maxHeartbeats 3200000 in
theorem place_ok {w : World} {c : Nat} {self aid now : Int} {cm : Cs0} {cv : Value} {ft : Value} {wp : Option Addr} {n wc K M : Nat} {xs : List Nat} (h : Lv w c (callA self aid now cm cv false (.slice wp n wc) (.pointer none) ft))
    (hi : 0 < cm.id) (hkd : cm.kind = 1) (hsz : cm.size = (n : Int)) (hw : Rb w wp n xs) (hwb : ∀ a, wp = some a → a.block ≠ c) (hn : (n : Int) ≤ 400) (h1 : 1 ≤ (K : Int)) (h3 : (M : Int) ≤ 255 - (K : Int)) (hp : Mf.Pows w) (hgc : 1 ≠ c)
    (p : Option Addr) (pc : Nat) (zs : List Int) (Y : Nat → Prop) (hf : Fl w Y p (zs.map encI)) (hG : K + M = zs.length) (hpc : K + M ≤ pc) (hN : Nds zs) :
    Calls Tryd.prog 35 #[.pointer (some ⟨c, 0, none⟩), .agg #[.int .i64 (K : Int), .int .i64 (M : Int)], .slice p (K + M) pc] w fun e w' => e = .returned (.int .i64 0) ∧ Kp (fun b => b = c) w w' ∧ ∃ q cq sp t B, Lv w' c (callA self aid now (withCode cm K M) (.slice q (K + M) cq) false (.slice none 0 0) (.pointer (some ⟨sp, 0, none⟩)) ft) ∧ Sto w' w.heap.size sp cm.id (K + M) zs t B (Mf.lenOf K n) (Mf.enc K (Mf.cutAt K (fun i => xs.getD i 0) n)) ∧ Fl w' (fun b => w.heap.size ≤ b) q (zs.map encI) := by
  have k0 : Kp (fun _ => False) w (w.alloc (.cells #[.int .i64 (K : Int), .int .i64 (M : Int)] 26)) := (Kp.refl _ _).alloc _
  have HB : Hid (Lv (w.alloc (.cells #[.int .i64 (K : Int), .int .i64 (M : Int)] 26)) w.heap.size [.int .i64 (K : Int), .int .i64 (M : Int)]) := Lv.new w _ _
  have HL : Hid (Lv w c (callA self aid now cm cv false (.slice wp n wc) (.pointer none) ft)) := h
  have HM : Hid (∀ u, Kp (fun _ => False) w u → Calls _ _ _ u _) := fun u k => cmade c cm.id u ((h.keep k id).cell (j := 3) rfl) hi
  have HPl : Hid (∀ u, Kp (fun _ => False) w u → Calls _ _ _ u _) := fun u k => placed_no c 16 u ((h.keep k id).cell (j := 17) rfl)
  have HFit : Hid (∀ u, Kp (fun _ => False) w u → Calls Tryd.prog 57 #[.agg #[.int .i64 (K : Int), .int .i64 (M : Int)], .int .i64 (n : Int), .slice p (K + M) pc] u _) := fun u k => fit_yes K M n (K + M) p pc Y zs u h1 h3 hn (hf.keep k (fun _ _ => id)) ⟨hG, rfl⟩ hN hpc
  have HCl : Hid (∀ u, Kp (fun _ => False) w u → Calls Tryd.prog 73 #[.slice p (K + M) pc] u fun e w' => ∃ q cq, e = .returned (.slice q (K + M) cq) ∧ Kp (fun _ => False) u w' ∧ Fl w' (fun b => u.heap.size ≤ b ∧ b < w'.heap.size) q (zs.map encI)) := fun u k => by
    have := clone_ints Y p pc zs u (hf.keep k (fun _ _ => id)) (by show _ ≤ _; omega)
    rw [← hG] at this
    refine this.mono ?_
    rintro e w' ⟨v, rfl, k2, ho⟩
    obtain ⟨q, cq, rfl, hfl⟩ := own_fl ho
    exact ⟨q, cq, rfl, k2, hfl⟩
  have HV : Hid (Rb w wp n xs ∧ (∀ a, wp = some a → a.block ≠ c) ∧ (n : Int) ≤ 400 ∧ 1 ≤ (K : Int) ∧ (M : Int) ≤ 255 - (K : Int) ∧ Mf.Pows w ∧ 1 ≠ c ∧ K + M = zs.length) := ⟨hw, hwb, hn, h1, h3, hp, hgc, hG⟩
  have HS0 : Hid (∀ z, Kp (fun _ => False) w z → z.cell? ⟨c, 15, none⟩ = some (.bool false) ∧ z.cell? ⟨c, 4, none⟩ = some (.int .i64 1) ∧ z.cell? ⟨c, 10, none⟩ = some (.int .i64 (n : Int))) := fun z k => by
    have l := h.keep k id
    have c4 := l.cell (j := 4) rfl
    have c10 := l.cell (j := 10) rfl
    rw [hkd] at c4
    rw [hsz] at c10
    exact ⟨l.cell (j := 15) rfl, c4, c10⟩
  have hlt : c < w.heap.size := h.lt (by simp)
  obtain ⟨G, hGG⟩ : ∃ G, G = K + M := ⟨_, rfl⟩
  rw [← hGG] at HFit HCl ⊢
  have HGG : Hid (G = K + M) := hGG
  clear h hi hkd hsz hw hwb hn h1 h3 hp hgc hf hG hpc hN hGG
  go_enter Tryd.func35, Tryd.ntmps35
  go_wp2_with fail
  obtain ⟨u, hu⟩ : ∃ x, x = w.alloc (.cells #[.int .i64 (K : Int), .int .i64 (M : Int)] 26) := ⟨_, rfl⟩
  obtain ⟨bx, hbx⟩ : ∃ x, x = w.heap.size := ⟨_, rfl⟩
  rw [← hu, ← hbx] at HB
  rw [← hu] at k0
  rw [← hu, ← hbx]
  have HBX : Hid (bx = w.heap.size ∧ c < w.heap.size) := ⟨hbx, hlt⟩
  clear hu hbx hlt
  refine (HM.out u k0).mono ?_
  rintro e w1 ⟨rfl, hw1⟩
  obtain rfl := hw1.symm
  clear hw1
  go_wp2
  have kd : Kp (fun _ => False) u u.drew := (Kp.refl _ _).drew
  have kwd := k0.trans kd (fun _ _ e => e)
  have dsC : ∃ d, Tryd.prog.underlying 26 = some d ∧ d.isRow = true := ⟨_, Tryd.underlying26, rfl⟩
  have szC : (Tryd.prog.info? 26).map (·.size) = some 2 := by kernel_rfl
  have HLc : Hid (∀ z, Lv z bx [.int .i64 (K : Int), .int .i64 (M : Int)] → (loadVar 26 ⟨bx, 0, none⟩).run Tryd.prog z = .ok (.agg #[.int .i64 (K : Int), .int .i64 (M : Int)]) z) := fun z hz => hz.load dsC szC rfl
  have HSS : Hid (∀ z, Kp (fun _ => False) u z → z.cell? ⟨c, 15, none⟩ = some (.bool false) ∧ z.cell? ⟨c, 4, none⟩ = some (.int .i64 1) ∧ z.cell? ⟨c, 10, none⟩ = some (.int .i64 (n : Int)) ∧ (loadVar 26 ⟨bx, 0, none⟩).run Tryd.prog z = .ok (.agg #[.int .i64 (K : Int), .int .i64 (M : Int)]) z) := fun z kz => by
    obtain ⟨a1, a2, a3⟩ := HS0.out z (k0.trans kz (fun _ _ e => e))
    exact ⟨a1, a2, a3, HLc.out z (HB.out.keep kz id)⟩
  refine pl3_region ⟨by kernel_rfl, by kernel_rfl, by kernel_rfl, by kernel_rfl, by kernel_rfl, by kernel_rfl, by kernel_rfl, by kernel_rfl, by kernel_rfl, by kernel_rfl, by kernel_rfl, by kernel_rfl, by kernel_rfl, by kernel_rfl, by kernel_rfl, by kernel_rfl, by kernel_rfl, by kernel_rfl, by kernel_rfl, by kernel_rfl, by kernel_rfl, by kernel_rfl, by kernel_rfl, by kernel_rfl, by kernel_rfl, by kernel_rfl, by kernel_rfl, by kernel_rfl, by kernel_rfl, by kernel_rfl, by kernel_rfl, by kernel_rfl, by kernel_rfl, by kernel_rfl, by kernel_rfl, by kernel_rfl, by kernel_rfl⟩ c bx K M (n : Int) (.slice p G pc) (fun d _ _ _ _ h => by cases d <;> exact h) (by rfl) (by rfl) (by rfl) (by rfl) (HSS.out _ kd) (fun z => Kp (fun _ => False) u z) ((HPl.out _ kwd).mono ?_) ?_
  · rintro e z ⟨rfl, hz⟩
    obtain rfl := hz.symm
    refine ⟨rfl, HSS.out _ kd, (HFit.out _ kwd).mono ?_⟩
    rintro e z2 ⟨rfl, k2⟩
    have k3 := kd.trans k2 (fun _ _ e => e)
    exact ⟨rfl, HSS.out z2 k3, k3⟩
  intro z hT
  simp only [Act.put, List.setIfInBounds_toArray, List.set_cons_succ, List.set_cons_zero]
  have HZ : Hid (Kp (fun _ => False) u z) := hT
  clear hT kd kwd HSS HPl HFit HM
  go_wp2
  have kd : Kp (fun _ => False) z z.drew := (Kp.refl _ _).drew
  have kuz := HZ.out.trans kd (fun _ _ e => e)
  have kwz := k0.trans kuz (fun _ _ e => e)
  refine pl5_region ⟨by kernel_rfl, by kernel_rfl, by kernel_rfl, by kernel_rfl, by kernel_rfl, by kernel_rfl, by kernel_rfl, by kernel_rfl, by kernel_rfl, by kernel_rfl, by kernel_rfl, by kernel_rfl, by kernel_rfl, by kernel_rfl, by kernel_rfl, by kernel_rfl, by kernel_rfl, by kernel_rfl, by kernel_rfl, by kernel_rfl, by kernel_rfl, by kernel_rfl⟩ c bx K M G 0 none (.slice p G pc) (fun d _ _ _ _ h => by cases d <;> exact h) (by rfl) (by rfl) (by rfl) (by rfl) (HLc.out _ (HB.out.keep kuz id)) (fun y => Kp (fun b => b = c) w y ∧ ∃ q cq, Lv y c (callA self aid now (withCode cm K M) (.slice q G cq) false (.slice wp n wc) (.pointer none) ft) ∧ Fl y (fun b => w.heap.size ≤ b ∧ b < y.heap.size) q (zs.map encI)) ((HCl.out _ kwz).mono ?_) ?_
  · rintro e z9 ⟨q, cq, rfl, k9, hfl⟩
    have kw9 := kwz.trans k9 (fun _ _ e => e)
    have ku9 := kuz.trans k9 (fun _ _ e => e)
    have lc := HL.out.keep kw9 id
    have lb := HB.out.keep ku9 id
    have hbx := HBX.out
    have l1 : Lv (z9.setCell ⟨c, 12, none⟩ (.int .i64 (K : Int))) c (callA self aid now (withCode cm K cm.m) cv false (.slice wp n wc) (.pointer none) ft) := lc.set1 12 _ (show 12 < 19 by omega)
    have l2 : Lv ((z9.setCell ⟨c, 12, none⟩ (.int .i64 (K : Int))).setCell ⟨c, 13, none⟩ (.int .i64 (M : Int))) c (callA self aid now (withCode cm K M) cv false (.slice wp n wc) (.pointer none) ft) := l1.set1 13 _ (show 13 < 19 by omega)
    have l3 : Lv (((z9.setCell ⟨c, 12, none⟩ (.int .i64 (K : Int))).setCell ⟨c, 13, none⟩ (.int .i64 (M : Int))).setCell ⟨c, 14, none⟩ (.slice q G cq)) c (callA self aid now (withCode cm K M) (.slice q G cq) false (.slice wp n wc) (.pointer none) ft) := l2.set1 14 _ (show 14 < 19 by omega)
    have s2 : Kp (fun b => b = c) z9 ((z9.setCell ⟨c, 12, none⟩ (.int .i64 (K : Int))).setCell ⟨c, 13, none⟩ (.int .i64 (M : Int))) := ((Kp.refl (fun b => b = c) z9).setCell (fun _ => rfl) _).setCell (fun _ => rfl) _
    have s3 : Kp (fun b => b = c) z9 (((z9.setCell ⟨c, 12, none⟩ (.int .i64 (K : Int))).setCell ⟨c, 13, none⟩ (.int .i64 (M : Int))).setCell ⟨c, 14, none⟩ (.slice q G cq)) := s2.setCell (fun _ => rfl) _
    have hz1 := kwz.size
    have hz3 := s3.size
    exact ⟨q, cq, _, _, _, rfl, HLc.out _ lb, HLc.out _ (lb.keep s2 (fun e => by omega)), HLc.out _ (lb.keep s3 (fun e => by omega)), lc.cell (j := 12) rfl, lc.fz (j := 12) (show 12 < 19 by omega), lc.cell (j := 13) rfl, lc.fz (j := 13) (show 13 < 19 by omega), l2.cell (j := 14) rfl, l2.fz (j := 14) (show 14 < 19 by omega), (kw9.mono (fun _ _ e => e.elim)).trans s3 (fun _ _ e => e), q, cq, l3, (hfl.keep s3 (fun b hb e => by omega)).mono (fun b hb => by omega)⟩
  intro q0 cq0 z9 hT
  simp only [Act.put, List.setIfInBounds_toArray, List.set_cons_succ, List.set_cons_zero]
  obtain ⟨y, hy⟩ : ∃ y, y = (((z9.setCell ⟨c, 12, none⟩ (.int .i64 (K : Int))).setCell ⟨c, 13, none⟩ (.int .i64 (M : Int))).setCell ⟨c, 14, none⟩ (.slice q0 G cq0)) := ⟨_, rfl⟩
  rw [← hy] at hT ⊢
  obtain ⟨kwy, q, cq, lc, hfl⟩ := hT
  have HY : Hid (Kp (fun b => b = c) w y ∧ Lv y c (callA self aid now (withCode cm K M) (.slice q G cq) false (.slice wp n wc) (.pointer none) ft) ∧ Fl y (fun b => w.heap.size ≤ b ∧ b < y.heap.size) q (zs.map encI)) := ⟨kwy, lc, hfl⟩
  clear hy kwy lc hfl kd kuz kwz HZ HCl
  go_wp2
  obtain ⟨kwy, lc, hfl⟩ := HY.out
  obtain ⟨hw, hwb, hn, h1, h3, hp, hgc, hG⟩ := HV.out
  have kd : Kp (fun _ => False) y y.drew := (Kp.refl _ _).drew
  have lcd := lc.keep kd id
  have hbx := HBX.out
  have hwy := kwy.size
  have hds : y.drew.heap.size = y.heap.size := rfl
  have hcut := cut_put (K := K) (M := M) lcd ((hw.keep kwy (fun a ha _ e => hwb a ha e)).keep0 kd) hn rfl rfl h1 h3 (pows_keep (pows_keep hp kwy hgc) kd id) q cq zs _ (hfl.keep kd (fun _ _ => id)) hG
  rw [← HGG.out] at hcut
  refine pl6_region ⟨by kernel_rfl, by kernel_rfl, by kernel_rfl, by kernel_rfl, by kernel_rfl, by kernel_rfl, by kernel_rfl, by kernel_rfl, by kernel_rfl, by kernel_rfl, by kernel_rfl, by kernel_rfl, by kernel_rfl⟩ c (cmdA (withCode cm K M) (.slice q G cq)) (fun d _ _ _ _ h => by cases d <;> exact h) (by rfl) (by rfl) (call_cmd lcd) (fun z => Kp (fun b => b = c) w z ∧ ∃ sp t B, Lv z c (callA self aid now (withCode cm K M) (.slice q G cq) false (.slice none 0 0) (.pointer (some ⟨sp, 0, none⟩)) ft) ∧ Sto z w.heap.size sp cm.id G zs t B (Mf.lenOf K n) (Mf.enc K (Mf.cutAt K (fun i => xs.getD i 0) n)) ∧ Fl z (fun b => w.heap.size ≤ b) q (zs.map encI)) (hcut.mono ?_) ?_
  · rintro e z ⟨rfl, kz, sp, t, B, lz, st⟩
    refine ⟨rfl, call_cmd lz, (kwy.trans kd (fun _ _ e => e.elim)).trans kz (fun _ _ e => e), sp, t, B, lz, ⟨?_, st.m, ⟨by have := st.b.1; omega, by have := st.b.2.1; omega, fun i hi => by have := st.b.2.2 i hi; omega⟩, st.g⟩, ((hfl.keep kd (fun _ _ => id)).keep kz (fun b hb e => by omega)).mono (fun b hb => hb.1)⟩
    obtain ⟨q2, c2, a1, a2⟩ := st.s
    exact ⟨q2, c2, a1, a2.mono (fun b hb => by omega)⟩
  intro z hT
  simp only [Act.put, List.setIfInBounds_toArray, List.set_cons_succ, List.set_cons_zero]
  have HT : Hid (Kp (fun b => b = c) w z ∧ ∃ sp t B, Lv z c (callA self aid now (withCode cm K M) (.slice q G cq) false (.slice none 0 0) (.pointer (some ⟨sp, 0, none⟩)) ft) ∧ Sto z w.heap.size sp cm.id G zs t B (Mf.lenOf K n) (Mf.enc K (Mf.cutAt K (fun i => xs.getD i 0) n)) ∧ Fl z (fun b => w.heap.size ≤ b) q (zs.map encI)) := hT
  clear hT hcut kd lcd kwy lc hfl HY
  go_wp2
  go_ret
  obtain ⟨kz, sp, t, B, lz, st, fz⟩ := HT.out
  exact ⟨rfl, kz, q, cq, sp, t, B, lz, st, fz⟩
end Go.Proofs.YtmncocmeafcpfaaDoor

/- A put whose shard is refused: shards.lies, waits, Refused, onStored, On. -/
namespace Go.Proofs.YtmncocmeafcpfaaDoor
set_option linter.unusedVariables false
set_option linter.unusedSimpArgs false
open Go.RowKit Go.Deep

set_option maxRecDepth 100000 in
set_option maxHeartbeats 1600000 in
theorem lies_yes (kind src bl : Int) (i G c : Nat) (ok : Bool) (bv : Value) (q : Option Addr) (Y : Nat → Prop) (zs : List Int) (w : World) (hf : Fl w Y q (zs.map encI)) (hi : i < zs.length) (hG : G = zs.length) (hsrc : src = zs[i]) :
    Calls Tryd.prog 96 #[.agg (msgF kind src bl (i : Int) ok bv), .int .i64 bl, .slice q G c] w fun e w' => e = .returned (.bool true) ∧ Kp (fun _ => False) w w' := by
  have hl : Lv (w.alloc (.cells (msgF kind src bl (i : Int) ok bv) 45)) w.heap.size (msgF kind src bl (i : Int) ok bv).toList := Lv.new w _ _
  have k0 : Kp (fun _ => False) w (w.alloc (.cells (msgF kind src bl (i : Int) ok bv) 45)) := (Kp.refl _ _).alloc _
  obtain ⟨b, o, rfl, _, e1⟩ := (hf.keep k0 (fun _ _ => id)) i (encI src) (by rw [List.getElem?_map, List.getElem?_eq_getElem hi, hsrc]; rfl)
  have x1 := hl.cell (j := 1) rfl
  have x5 := hl.cell (j := 5) rfl
  have x6 := hl.cell (j := 6) rfl
  have h0 : (i : Int) ≥ 0 := by omega
  have h1 : (i : Int) < (G : Int) := by omega
  clear hf hl hi hG hsrc
  obtain ⟨u, hu⟩ : ∃ x, x = w.alloc (.cells (msgF kind src bl (i : Int) ok bv) 45) := ⟨_, rfl⟩
  have e0 : w.alloc (.cells (msgF kind src bl (i : Int) ok bv) 45) = u := hu.symm
  rw [e0] at x1 x5 x6 e1 k0
  clear hu
  go_enter Tryd.func96, Tryd.ntmps96
  go_wp2
  try rw [e0]
  clear e0
  go_quiet (fail)
  go_wp2
  go_ret
  exact ⟨rfl, k0.drewN _⟩
-- behind lies_yes
set_option maxRecDepth 100000 in
set_option maxHeartbeats 3200000 in
theorem waits_yes {w : World} {base sp : Nat} {bl : Int} {G : Nat} {zs : List Int} {t : Nat} {B : Nat → Nat} {N : Nat} {X : Nat → Nat → Nat} (h : Sto w base sp bl G zs t B N X) (hN : 1 ≤ N) (src : Int) (i : Nat) (ok : Bool) (bv : Value) (hi : i < zs.length) (hsrc : src = zs[i]) :
    Calls Tryd.prog 97 #[.pointer (some ⟨sp, 0, none⟩), .agg (msgF 11 src bl (i : Int) ok bv)] w fun e w' => e = .returned (.bool true) ∧ Kp (fun _ => False) w w' := by
  obtain ⟨q2, c2, ls, hf⟩ := h.s
  have hG := h.g
  have ht : w.cell? ⟨t, i, none⟩ = some (.slice (some ⟨B i, 0, none⟩) N N) := h.m.top.cell (by omega)
  have k0 : Kp (fun _ => False) w (w.alloc (.cells (msgF 11 src bl (i : Int) ok bv) 45)) := (Kp.refl _ _).alloc _
  have HB : Hid (Lv (w.alloc (.cells (msgF 11 src bl (i : Int) ok bv) 45)) w.heap.size ((msgF 11 src bl (i : Int) ok bv)).toList) := Lv.new w _ _
  have HL : Hid (∀ u, Kp (fun _ => False) w u → Calls _ _ _ u _) := fun u k => lies_yes 11 src bl i G c2 ok bv q2 _ zs u (hf.keep k (fun _ _ => id)) hi hG hsrc
  have HS : Hid (∀ z, Kp (fun _ => False) w z → z.cell? ⟨sp, 0, none⟩ = some (.int .i64 bl) ∧ z.cell? ⟨sp, 1, none⟩ = some (.slice q2 G c2) ∧ z.cell? ⟨sp, 2, none⟩ = some (.slice (some ⟨t, 0, none⟩) G G) ∧ z.cell? ⟨t, i, none⟩ = some (.slice (some ⟨B i, 0, none⟩) N N) ∧ (i : Int) < (G : Int) ∧ (0 : Int) < (N : Int)) := fun z k => ⟨(ls.keep k id).cell (j := 0) rfl, (ls.keep k id).cell (j := 1) rfl, (ls.keep k id).cell (j := 2) rfl, k.cellv ht id, by omega, by omega⟩
  obtain ⟨mv, hmv⟩ : ∃ mv : Array Value, mv = (msgF 11 src bl (i : Int) ok bv) := ⟨_, rfl⟩
  have HMV : Hid (mv = (msgF 11 src bl (i : Int) ok bv)) := hmv
  rw [← hmv] at HB k0 HL ⊢
  clear h ls hf hG ht hN hi hsrc hmv
  go_enter Tryd.func97, Tryd.ntmps97
  go_wp2
  obtain ⟨u, hu⟩ : ∃ x, x = w.alloc (.cells mv 45) := ⟨_, rfl⟩
  obtain ⟨bx, hbx⟩ : ∃ x, x = w.heap.size := ⟨_, rfl⟩
  rw [← hu, ← hbx] at HB
  rw [← hu] at k0
  rw [← hu, ← hbx]
  clear hu hbx
  have kd : Kp (fun _ => False) u u.drew := (Kp.refl _ _).drew
  have HSS : Hid (∀ z, Kp (fun _ => False) u z → z.cell? ⟨bx, 0, none⟩ = some (.int .i64 11) ∧ z.cell? ⟨bx, 6, none⟩ = some (.int .i64 (i : Int)) ∧ (loadVar 45 ⟨bx, 0, none⟩).run Tryd.prog z = .ok (.agg mv) z ∧ z.cell? ⟨sp, 0, none⟩ = some (.int .i64 bl) ∧ z.cell? ⟨sp, 1, none⟩ = some (.slice q2 G c2) ∧ z.cell? ⟨sp, 2, none⟩ = some (.slice (some ⟨t, 0, none⟩) G G) ∧ z.cell? ⟨t, i, none⟩ = some (.slice (some ⟨B i, 0, none⟩) N N) ∧ (i : Int) < (G : Int) ∧ (0 : Int) < (N : Int)) := fun z kz => by
    have lb := HB.out.keep kz id
    have hld := lb.load dsMsg szMsg (by rw [HMV.out]; rfl)
    rw [Array.toArray_toList] at hld
    rw [HMV.out] at lb
    exact ⟨lb.cell (j := 0) rfl, lb.cell (j := 6) rfl, hld, HS.out z (k0.trans kz (fun _ _ e => e))⟩
  refine wt1_region ⟨by kernel_rfl, by kernel_rfl, by kernel_rfl, by kernel_rfl, by kernel_rfl, by kernel_rfl, by kernel_rfl, by kernel_rfl, by kernel_rfl, by kernel_rfl, by kernel_rfl, by kernel_rfl, by kernel_rfl, by kernel_rfl, by kernel_rfl, by kernel_rfl, by kernel_rfl, by kernel_rfl, by kernel_rfl, by kernel_rfl, by kernel_rfl, by kernel_rfl, by kernel_rfl, by kernel_rfl, by kernel_rfl, by kernel_rfl, by kernel_rfl, by kernel_rfl, by kernel_rfl, by kernel_rfl, by kernel_rfl, by kernel_rfl, by kernel_rfl, by kernel_rfl⟩ sp bx t i G G N N (some ⟨B i, 0, none⟩) bl (.slice q2 G c2) mv (fun d _ _ _ _ h => by cases d <;> exact h) (by rfl) (by rfl) (by rfl) (HSS.out _ kd) (fun z => Kp (fun _ => False) w z) ((HL.out _ (k0.trans kd (fun _ _ e => e))).mono ?_) ?_
  · rintro e z ⟨rfl, kz⟩
    have k1 := kd.trans kz (fun _ _ e => e)
    exact ⟨rfl, HSS.out z k1, k0.trans k1 (fun _ _ e => e)⟩
  intro z hT
  simp only [Act.put, List.setIfInBounds_toArray, List.set_cons_succ, List.set_cons_zero]
  have HT : Hid (Kp (fun _ => False) w z) := hT
  clear hT HSS kd HS HL
  go_wp2
  go_ret
  exact ⟨rfl, HT.out⟩

set_option maxRecDepth 100000 in
set_option maxHeartbeats 1600000 in
theorem refused_ok {w : World} {base sp : Nat} {bl : Int} {G : Nat} {zs : List Int} {t : Nat} {B : Nat → Nat} {N : Nat} {X : Nat → Nat → Nat} (h : Sto w base sp bl G zs t B N X) (hN : 1 ≤ N) (src : Int) (i : Nat) (ok : Bool) (bv : Value) (hi : i < zs.length) (hsrc : src = zs[i]) :
    Calls Tryd.prog 103 #[.pointer (some ⟨sp, 0, none⟩), .agg (msgF 11 src bl (i : Int) ok bv)] w fun e w' => e = .returned (.bool (!ok)) ∧ Kp (fun _ => False) w w' := by
  have HW : Hid (∀ u, Kp (fun _ => False) w u → Calls _ _ _ u _) := fun u k => waits_yes (h.keep k (fun _ _ => id)) hN src i ok bv hi hsrc
  have k0 : Kp (fun _ => False) w (w.alloc (.cells (msgF 11 src bl (i : Int) ok bv) 45)) := (Kp.refl _ _).alloc _
  have HB : Hid (Lv (w.alloc (.cells (msgF 11 src bl (i : Int) ok bv) 45)) w.heap.size ((msgF 11 src bl (i : Int) ok bv)).toList) := Lv.new w _ _
  obtain ⟨mv, hmv⟩ : ∃ mv : Array Value, mv = (msgF 11 src bl (i : Int) ok bv) := ⟨_, rfl⟩
  have HMV : Hid (mv = (msgF 11 src bl (i : Int) ok bv)) := hmv
  rw [← hmv] at HB k0 HW ⊢
  clear h hN hi hsrc hmv
  go_enter Tryd.func103, Tryd.ntmps103
  go_wp2_with (first
    | (refine wpList_load_all rfl 45 _ rfl 24 w.heap.size mv.toList rfl HB.out dsMsg szMsg (by rw [HMV.out]; rfl) ?_; rw [Array.toArray_toList])
    | (go_at_call 97; refine (HW.out _ k0).mono ?_; rintro e w1 ⟨rfl, k1⟩; have x9 : w1.cell? ⟨w.heap.size, 9, none⟩ = some (.bool ok) := (by have lb := HB.out.keep k1 id; rw [HMV.out] at lb; exact lb.cell (j := 9) rfl)))
  go_ret
  exact ⟨rfl, k0.trans k1 (fun _ _ e => e)⟩

set_option maxRecDepth 100000 in
set_option maxHeartbeats 1600000 in
theorem onStored_no {w : World} {base c sp : Nat} {self aid now : Int} {cm : Cs0} {cv wh ft : Value} {bl : Int} {G : Nat} {zs : List Int} {t : Nat} {B : Nat → Nat} {N : Nat} {X : Nat → Nat → Nat} (hc : Lv w c (callA self aid now cm cv false wh (.pointer (some ⟨sp, 0, none⟩)) ft)) (h : Sto w base sp bl G zs t B N X) (hN : 1 ≤ N) (src : Int) (i : Nat) (bv : Value) (hi : i < zs.length) (hsrc : src = zs[i]) :
    Calls Tryd.prog 76 #[.pointer (some ⟨c, 0, none⟩), .agg (msgF 11 src bl (i : Int) false bv)] w fun e w' => ∃ g, e = .returned (.slice (some ⟨g, 0, none⟩) 1 1) ∧ w.heap.size ≤ g ∧ Kp (fun b => b = c) w w' ∧ Lv w' c (callA self aid now cm cv true (.slice none 0 0) (.pointer none) (.pointer none)) ∧ Lv w' g [.int .i64 aid, .int .i64 5, .slice none 0 0] := by
  have HRf : Hid (∀ u, Kp (fun _ => False) w u → Calls Tryd.prog 103 #[.pointer (some ⟨sp, 0, none⟩), .agg (msgF 11 src bl (i : Int) false bv)] u fun e w' => e = .returned (.bool true) ∧ Kp (fun _ => False) u w') := fun u k => refused_ok (h.keep k (fun _ _ => id)) hN src i false bv hi hsrc
  have HT : Hid (∀ u, Kp (fun _ => False) w u → Calls _ _ _ u _) := fun u k => tell_ok (hc.keep k id) 5 none 0 0
  have HC : Hid (∀ z, Kp (fun _ => False) w z → z.cell? ⟨c, 17, none⟩ = some (.pointer (some ⟨sp, 0, none⟩))) := fun z k => (hc.keep k id).cell (j := 17) rfl
  have k0 : Kp (fun _ => False) w (w.alloc (.cells (msgF 11 src bl (i : Int) false bv) 45)) := (Kp.refl _ _).alloc _
  have HB : Hid (Lv (w.alloc (.cells (msgF 11 src bl (i : Int) false bv) 45)) w.heap.size (msgF 11 src bl (i : Int) false bv).toList) := Lv.new w _ _
  obtain ⟨mv, hmv⟩ : ∃ mv : Array Value, mv = msgF 11 src bl (i : Int) false bv := ⟨_, rfl⟩
  have HMV : Hid (mv = msgF 11 src bl (i : Int) false bv) := hmv
  rw [← hmv] at HB k0 HRf ⊢
  clear h hN hi hsrc hmv hc
  go_enter Tryd.func76, Tryd.ntmps76
  go_wp2
  obtain ⟨u, hu⟩ : ∃ x, x = w.alloc (.cells mv 45) := ⟨_, rfl⟩
  obtain ⟨bx, hbx⟩ : ∃ x, x = w.heap.size := ⟨_, rfl⟩
  rw [← hu, ← hbx] at HB
  rw [← hu] at k0
  rw [← hu, ← hbx]
  clear hu hbx
  have kd : Kp (fun _ => False) u u.drew := (Kp.refl _ _).drew
  have HSS : Hid (∀ z, Kp (fun _ => False) u z → z.cell? ⟨c, 17, none⟩ = some (.pointer (some ⟨sp, 0, none⟩)) ∧ (loadVar 45 ⟨bx, 0, none⟩).run Tryd.prog z = .ok (.agg mv) z) := fun z kz => by
    have hld := (HB.out.keep kz id).load dsMsg szMsg (by rw [HMV.out]; rfl)
    rw [Array.toArray_toList] at hld
    exact ⟨HC.out z (k0.trans kz (fun _ _ e => e)), hld⟩
  refine on1_region ⟨by kernel_rfl, by kernel_rfl, by kernel_rfl, by kernel_rfl, by kernel_rfl, by kernel_rfl, by kernel_rfl, by kernel_rfl, by kernel_rfl, by kernel_rfl, by kernel_rfl, by kernel_rfl⟩ c bx sp mv true (fun d _ _ _ _ h => by cases d <;> exact h) (by rfl) (by rfl) (by rfl) (HSS.out _ kd) (fun z => Kp (fun _ => False) w z) ((HRf.out _ (k0.trans kd (fun _ _ e => e))).mono ?_) ?_
  · rintro e z ⟨rfl, kz⟩
    have k1 := kd.trans kz (fun _ _ e => e)
    exact ⟨rfl, HSS.out z k1, k0.trans k1 (fun _ _ e => e)⟩
  intro z hT
  simp only [Act.put, List.setIfInBounds_toArray, List.set_cons_succ, List.set_cons_zero]
  have HZ : Hid (Kp (fun _ => False) w z) := hT
  clear hT HSS kd HC HRf
  go_wp2_with (go_at_call 81; refine (HT.out _ HZ.out).mono ?_; rintro e w3 ⟨g, rfl, hg, k3, l3, lg⟩)
  go_ret
  refine ⟨g, rfl, ?_, (HZ.out.mono (fun _ _ e => e.elim)).trans k3 (fun _ _ e => e), l3, lg⟩
  have := HZ.out.size
  omega

set_option maxRecDepth 100000 in
set_option maxHeartbeats 1600000 in
theorem on_refused {w : World} {base c sp : Nat} {self aid now : Int} {cm : Cs0} {cv wh ft : Value} {bl : Int} {G : Nat} {zs : List Int} {t : Nat} {B : Nat → Nat} {N : Nat} {X : Nat → Nat → Nat} (hc : Lv w c (callA self aid now cm cv false wh (.pointer (some ⟨sp, 0, none⟩)) ft)) (hid : 0 < cm.id) (h : Sto w base sp bl G zs t B N X) (hN : 1 ≤ N) (src : Int) (i : Nat) (bv tm : Value) (hi : i < zs.length) (hsrc : src = zs[i]) :
    Calls Tryd.prog 36 #[.pointer (some ⟨c, 0, none⟩), .agg (msgF 11 src bl (i : Int) false bv), tm] w fun e w' => ∃ g, e = .returned (.slice (some ⟨g, 0, none⟩) 1 1) ∧ w.heap.size ≤ g ∧ Kp (fun b => b = c) w w' ∧ Lv w' c (callA self aid now cm cv true (.slice none 0 0) (.pointer none) (.pointer none)) ∧ Lv w' g [.int .i64 aid, .int .i64 5, .slice none 0 0] := by
  have HOp : Hid (∀ u, Kp (fun _ => False) w u → Calls Tryd.prog 75 #[.pointer (some ⟨c, 0, none⟩)] u fun e w' => e = .returned (.bool true) ∧ w' = u) := fun u k => copen c cm.id false u ((hc.keep k id).cell (j := 3) rfl) hid ((hc.keep k id).cell (j := 15) rfl)
  have HPl : Hid (∀ u, Kp (fun _ => False) w u → Calls _ _ _ u _) := fun u k => placed_yes c 16 sp u ((hc.keep k id).cell (j := 17) rfl)
  have HSt : Hid (∀ u, Kp (fun _ => False) w u → Calls _ _ _ u _) := fun u k => onStored_no (hc.keep k id) (h.keep k (fun _ _ => id)) hN src i bv hi hsrc
  have k0 : Kp (fun _ => False) w (w.alloc (.cells (msgF 11 src bl (i : Int) false bv) 45)) := (Kp.refl _ _).alloc _
  have HB : Hid (Lv (w.alloc (.cells (msgF 11 src bl (i : Int) false bv) 45)) w.heap.size (msgF 11 src bl (i : Int) false bv).toList) := Lv.new w _ _
  obtain ⟨mv, hmv⟩ : ∃ mv : Array Value, mv = msgF 11 src bl (i : Int) false bv := ⟨_, rfl⟩
  have HMV : Hid (mv = msgF 11 src bl (i : Int) false bv) := hmv
  rw [← hmv] at HB k0 HSt ⊢
  clear h hN hi hsrc hmv hc hid
  go_enter Tryd.func36, Tryd.ntmps36
  go_wp2_with (first
    | (go_at_call 75; refine (HOp.out _ k0).mono ?_; rintro e w1 ⟨rfl, hw1⟩; obtain rfl := hw1.symm)
    | (go_at_call 72; refine (HPl.out _ k0).mono ?_; rintro e w1 ⟨rfl, hw1⟩; obtain rfl := hw1.symm)
    | (refine wpList_load_all rfl 45 _ rfl 24 w.heap.size mv.toList rfl HB.out dsMsg szMsg (by rw [HMV.out]; rfl) ?_; rw [Array.toArray_toList])
    | (go_at_call 76; refine (HSt.out _ k0).mono ?_; rintro e w3 ⟨g, rfl, hg, k3, l3, lg⟩))
  go_ret
  refine ⟨g, rfl, ?_, (k0.mono (fun _ _ e => e.elim)).trans k3 (fun _ _ e => e), l3, lg⟩
  have := k0.size
  omega
end Go.Proofs.YtmncocmeafcpfaaDoor
