/- The walk of the law StripeCuts: a blob's shards, how long they are, or the error; the blob stays. -/
import Derived.Test.YtnccnicgmjcdpaaDoorSu
import Derived.Test.YtnccnicgmjcdpaaDoorM18
import Derived.Deep.QuietTactic
namespace Go.Proofs.YtnccnicgmjcdpaaDoor
open Go.RowKit Go.Deep Bl

/-- a region that draws its order, over a class of worlds -/
theorem wp_region_quiet_lit_C {P : Program} {C : World → Prop} {id : Nat} {Q : Exit → Act → World → Prop} {a : Act} {w : World} {l : List Oper} (hm : P.follows .mixedOrders = true) (hB : Region.lexB .any l.toArray = true) (hC : C { w with drawn := w.drawn + 1 })
    (h : wpQuiet P l.toArray C (fun a' => ∀ w', C w' → Q .normal a' w') l a) : (Code.region id l.toArray true).wp P Q a w :=
  wp_region_quiet hm hB hC (by simpa using h)
theorem bs_of_rb {w : World} {p : Option Addr} {n : Nat} {xs : List Nat} (h : Rb w p n xs) (c : Nat) : Bs w (.slice p n c) n (fun i => xs.getD i 0) := by
  by_cases hn : 0 < n
  · obtain ⟨b, o, rfl, hc⟩ := h.pt hn
    exact ⟨_, b, o, c, rfl, fun _ _ => rfl, hc, fun k => h.byteAt k⟩
  · exact ⟨p, 0, 0, c, rfl, fun k hk => by omega, fun k hk => by omega, fun k => h.byteAt k⟩

/-- rows of the program's own that may be written over, or nothing -/
def Wc (w w' : World) (v : Value) : Prop := v = .slice none 0 0 ∨ ∃ t B R C cap, v = .slice (some ⟨t, 0, none⟩) R cap ∧ Wri w' t B R C ∧ R ≤ 255 ∧ C ≤ 1000 ∧ ∀ i, i < R → w.heap.size ≤ B i
theorem Wc.spoil {w w' : World} {v : Value} (h : Wc w w' v) : Calls Tryd.prog 10 #[v] w' fun e w'' => e = .returned (.tuple #[]) ∧ Kp (fun b => w.heap.size ≤ b) w' w'' := by
  rcases h with rfl | ⟨t, B, R, C, cap, rfl, hW, hR, hC, hB⟩
  · refine (spoil_nil w').mono ?_
    rintro e w'' ⟨rfl, rfl⟩
    exact ⟨rfl, Kp.refl _ _⟩
  · refine (spoil_any t cap B R C w' hW (by omega) (by omega)).mono ?_
    rintro e w'' ⟨rfl, k⟩
    exact ⟨rfl, k.mono (fun b _ ⟨i, hi, e⟩ => by rw [e]; exact hB i hi)⟩
theorem Wc.keep {w w' w'' : World} {v : Value} (h : Wc w w' v) (k : Kp (fun _ => False) w' w'') : Wc w w'' v := by
  rcases h with rfl | ⟨t, B, R, C, cap, rfl, hW, hR, hC, hB⟩
  · exact Or.inl rfl
  · exact Or.inr ⟨t, B, R, C, cap, rfl, ⟨k.row hW.top id, fun i hi => by obtain ⟨f, hf, hr⟩ := hW.row i hi; exact ⟨f, hf, k.row hr id⟩, hW.inj, hW.ne⟩, hR, hC, hB⟩

/-- what lay in a block that was there ahead -/
theorem Bl.Rb.keepOld {w0 w w' : World} {p : Option Addr} {n : Nat} {xs : List Nat} (h0 : Rb w0 p n xs) (h : Rb w p n xs) (k : Kp (fun b => w0.heap.size ≤ b) w w') : Rb w' p n xs :=
  ⟨h.len, h.byte, fun j hj => by
    obtain ⟨b, o, e, hc⟩ := h.cell j hj
    obtain ⟨b', o', e', hc'⟩ := h0.cell j hj
    rw [e] at e'
    simp only [Option.some.injEq, Addr.mk.injEq, and_true] at e'
    obtain ⟨rfl, rfl⟩ := e'
    have hlt : b < w0.heap.size := World.block_lt_of_cell? w0 _ hc'
    exact ⟨b, o, e, k.cellv hc (by show ¬ w0.heap.size ≤ b; omega)⟩⟩

/-- both Cuts, side by side -/
theorem cutU (K M : Int) (xs : List Nat) (hK : K ≤ 40) (hM : M ≤ 40) : ∃ (c : Int) (R1 R2 : World → Value → Prop),
    (∀ (w : World) (p : Option Addr) (ca : Nat), Rb w p xs.length xs → Pows w → Calls Tryd.prog 5 #[.agg #[.int .i64 K, .int .i64 M], .slice p xs.length ca] w fun e w' => ∃ v, e = .returned (.tuple #[v, .int .i64 c]) ∧ Kp (fun _ => False) w w' ∧ R1 w' v ∧ Wc w w' v) ∧
    (∀ (w : World) (p : Option Addr) (ca : Nat), Rb w p xs.length xs → Calls Tryd.prog 6 #[.agg #[.int .i64 K, .int .i64 M], .slice p xs.length ca] w fun e w' => ∃ v, e = .returned (.tuple #[v, .int .i64 c]) ∧ Kp (fun _ => False) w w' ∧ R2 w' v) ∧
    (∀ (w : World) (v u : Value), R1 w v → R2 w u → Calls Tryd.prog 7 #[v, u] w fun e w' => e = .returned (.bool true) ∧ w' = w) ∧
    (∀ (w w' : World) (v : Value), R1 w v → Kp (fun _ => False) w w' → R1 w' v) ∧ (∀ (w w' : World) (v : Value), R2 w v → Kp (fun _ => False) w w' → R2 w' v) := by
  by_cases hg : (1 ≤ K ∧ 0 ≤ M ∧ M ≤ 255 - K) ∧ (xs.length : Int) ≤ 400
  · obtain ⟨⟨h1, h2, h3⟩, h4⟩ := hg
    obtain ⟨k, rfl⟩ : ∃ k : Nat, K = (k : Int) := ⟨K.toNat, by omega⟩
    obtain ⟨m, rfl⟩ : ∃ m : Nat, M = (m : Int) := ⟨M.toNat, by omega⟩
    have hlb := lenOf_bd (K := k) (size := xs.length) (by omega) (by omega)
    refine ⟨0, fun w v => Mx w v (k + m) (lenOf k xs.length) (enc k (cutAt k (fun i => xs.getD i 0) xs.length)),
      fun w v => ∃ D, Mx w v (k + m) (lenOf k xs.length) (enc k D) ∧ ∀ q, q < k → ∀ j, j < lenOf k xs.length → D q j = cutAt k (fun i => xs.getD i 0) xs.length q j, ?_, ?_, ?_, ?_, ?_⟩
    · intro w p ca hr hp
      refine (cut_yes k m xs.length (.slice p xs.length ca) (fun i => xs.getD i 0) w (bs_of_rb hr ca) h1 h3 h4 hp).mono ?_
      rintro e w' ⟨t, B, rfl, hk, ht, hB, hMt⟩
      exact ⟨_, rfl, hk, hMt.mx, Or.inr ⟨t, B, k + m, lenOf k xs.length, _, rfl, hMt.wri, by omega, by omega, hB⟩⟩
    · intro w p ca hr
      refine (refCut_yes k m xs.length p ca xs w hr h1 h3 h4).mono ?_
      rintro e w' ⟨v, D, rfl, hk, hMx, hD⟩
      exact ⟨v, rfl, hk, D, hMx, hD⟩
    · rintro w v u hv ⟨D, hu, hD⟩
      exact sameX v u (k + m) (lenOf k xs.length) _ _ w hv hu (fun i hi j hj => (enc_congr (fun q hq => hD q hq j hj) i).symm) (by omega)
    · intro w w' v hv hk; exact hv.keep hk
    · rintro w w' v ⟨D, hv, hD⟩ hk; exact ⟨D, hv.keep hk, hD⟩
  · have hw : 1 ≤ K → wrap64 (255 - K) = 255 - K := fun h => by unfold wrap64; omega
    refine ⟨1, fun _ v => v = .slice none 0 0, fun _ v => v = .slice none 0 0, ?_, ?_, ?_, fun _ _ _ h _ => h, fun _ _ _ h _ => h⟩
    · intro w p ca hr hp
      refine (cut_no K M p xs.length ca w hw (by omega)).mono ?_
      rintro e w' ⟨rfl, hk⟩
      exact ⟨_, rfl, hk, rfl, Or.inl rfl⟩
    · intro w p ca hr
      refine (refCut_no K M p xs.length ca w (by omega)).mono ?_
      rintro e w' ⟨rfl, hk⟩
      exact ⟨_, rfl, hk, rfl⟩
    · rintro w v u rfl rfl
      exact sameNil w
/-- both Lengths, side by side -/
theorem lengthU (K M size : Int) (hK : K ≤ 40) : ∃ n : Int, ∀ w, (Calls Tryd.prog 8 #[.agg #[.int .i64 K, .int .i64 M], .int .i64 size] w fun e w' => e = .returned (.int .i64 n) ∧ Kp (fun _ => False) w w') ∧
    (Calls Tryd.prog 9 #[.agg #[.int .i64 K, .int .i64 M], .int .i64 size] w fun e w' => e = .returned (.int .i64 n) ∧ Kp (fun _ => False) w w') := by
  by_cases hg : (1 ≤ K ∧ 0 ≤ M ∧ M ≤ 255 - K) ∧ 0 ≤ size ∧ size ≤ 400
  · obtain ⟨⟨h1, h2, h3⟩, h4, h5⟩ := hg
    obtain ⟨k, rfl⟩ : ∃ k : Nat, K = (k : Int) := ⟨K.toNat, by omega⟩
    obtain ⟨m, rfl⟩ : ∃ m : Nat, M = (m : Int) := ⟨M.toNat, by omega⟩
    obtain ⟨z, rfl⟩ : ∃ z : Nat, size = (z : Int) := ⟨size.toNat, by omega⟩
    exact ⟨lenOf k z, fun w => ⟨length_yes k m z w h1 h3 h5, refLength_yes k m z w h1 h3 h5⟩⟩
  · have hw : 1 ≤ K → wrap64 (255 - K) = 255 - K := fun h => by unfold wrap64; omega
    exact ⟨0, fun w => ⟨length_no K M size w hw hg, refLength_no K M size w hg⟩⟩
theorem frozen_alloc_new (w : World) (cs : Array Value) (t : TypeId) (j : Nat) : (w.alloc (.cells cs t)).frozen? ⟨w.heap.size, j, none⟩ = false := by
  have hh : (w.alloc (.cells cs t)).heap[w.heap.size]? = _ := heap_alloc_new w _
  exact frozen_of_row _ _ _ cs t hh
theorem len16 : lenOf 2 20 = 16 := by decide

set_option maxRecDepth 100000 in
set_option maxHeartbeats 3200000 in
theorem cuts_walk (K M size : Int) (p : Option Addr) (ca : Nat) (xs : List Nat) (w : World) (h : Rb w p xs.length xs) (hn : Hid (xs.length ≤ 140737488355328)) (hp : Pows w) :
    Calls Tryd.prog 3 #[.agg #[.int .i64 K, .int .i64 M], .int .i64 size, .slice p xs.length ca] w fun e w' => e = .returned (.bool true) ∧ Kp (fun _ => False) w w' := by
  obtain ⟨wa, hwa, ka, za, q1, q2⟩ := code_alloc w K M
  have HCl : Hid (Calls _ _ _ wa _) := Bl.clone_any p xs.length ca xs wa (h.keep0 ka) hn
  have HFz : Hid (∀ j, wa.frozen? ⟨w.heap.size, j, none⟩ = false) := fun j => by rw [hwa]; exact frozen_alloc_new w _ _ j
  have hwz : w.heap.size < wa.heap.size := by omega
  obtain ⟨n, hnn⟩ : ∃ n, n = xs.length := ⟨_, rfl⟩
  have HN : Hid (n = xs.length) := hnn
  rw [← hnn] at HCl ⊢
  clear hnn
  go_enter Tryd.func3, Tryd.ntmps3
  go_wp2_with fail
  rw [← hwa]
  refine HCl.out.mono ?_
  rintro e w1 ⟨v1, rfl, k1, o1⟩
  have r1 := k1.cellv q1 id
  have r2 := k1.cellv q2 id
  have f1 : w1.frozen? ⟨w.heap.size, 0, none⟩ = false := by rw [World.frozen?_of_block (w := wa) (k1.block _ hwz id)]; exact HFz.out 0
  have f2 : w1.frozen? ⟨w.heap.size, 1, none⟩ = false := by rw [World.frozen?_of_block (w := wa) (k1.block _ hwz id)]; exact HFz.out 1
  clear hwa HCl q1 q2
  obtain ⟨p1, c1, rfl, hc1, rb1, hb1⟩ := o1.rb h.byte
  rw [← HN.out] at rb1 ⊢
  have HB1 : Hid (∀ a, p1 = some a → wa.heap.size ≤ a.block) := fun a ha => (hb1 a ha).1
  clear hc1 hb1 o1
  by_cases hk : 40 < K
  case' pos =>
    go_wp2_with fail
    obtain ⟨K', hK'⟩ : ∃ x, x = K % 40 := ⟨_, rfl⟩
    obtain ⟨M', hM'⟩ : ∃ x, x = M.tmod 40 := ⟨_, rfl⟩
    rw [← hK', ← hM']
    have hKb : K' ≤ 40 := by omega
    have hMb : M' ≤ 40 := by rw [hM']; have := Int.tmod_lt_of_pos M (show (0 : Int) < 40 by omega); omega
    obtain ⟨wc, hwc⟩ : ∃ x, x = (w1.setCell ⟨w.heap.size, 0, none⟩ (.int .i64 K')).setCell ⟨w.heap.size, 1, none⟩ (.int .i64 M') := ⟨_, rfl⟩
    rw [← hwc]
    have y1 : wc.cell? ⟨w.heap.size, 0, none⟩ = some (.int .i64 K') := by rw [hwc]; go_simp
    have y2 : wc.cell? ⟨w.heap.size, 1, none⟩ = some (.int .i64 M') := by rw [hwc]; go_simp
    have k1c : Kp (fun b => b = w.heap.size) w1 wc := by rw [hwc]; exact ((Kp.refl (fun b => b = w.heap.size) w1).setCell (a := ⟨w.heap.size, 0, none⟩) (fun _ => rfl) _).setCell (a := ⟨w.heap.size, 1, none⟩) (fun _ => rfl) _
    clear hwc hK' hM'
  case' neg =>
    by_cases hm : 40 < M
    case' pos =>
      have hk' : K ≤ 40 := by omega
      clear hk
      go_wp2_with fail
      obtain ⟨K', hK'⟩ : ∃ x, x = K.tmod 40 := ⟨_, rfl⟩
      obtain ⟨M', hM'⟩ : ∃ x, x = M % 40 := ⟨_, rfl⟩
      rw [← hK', ← hM']
      have hMb : M' ≤ 40 := by omega
      have hKb : K' ≤ 40 := by rw [hK']; have := Int.tmod_lt_of_pos K (show (0 : Int) < 40 by omega); omega
      obtain ⟨wc, hwc⟩ : ∃ x, x = (w1.setCell ⟨w.heap.size, 0, none⟩ (.int .i64 K')).setCell ⟨w.heap.size, 1, none⟩ (.int .i64 M') := ⟨_, rfl⟩
      rw [← hwc]
      have y1 : wc.cell? ⟨w.heap.size, 0, none⟩ = some (.int .i64 K') := by rw [hwc]; go_simp
      have y2 : wc.cell? ⟨w.heap.size, 1, none⟩ = some (.int .i64 M') := by rw [hwc]; go_simp
      have k1c : Kp (fun b => b = w.heap.size) w1 wc := by rw [hwc]; exact ((Kp.refl (fun b => b = w.heap.size) w1).setCell (a := ⟨w.heap.size, 0, none⟩) (fun _ => rfl) _).setCell (a := ⟨w.heap.size, 1, none⟩) (fun _ => rfl) _
      clear hwc hK' hM'
    case' neg =>
      have hk' : K ≤ 40 := by omega
      have hm' : M ≤ 40 := by omega
      clear hk hm
      go_wp2_with fail
      obtain ⟨K', hK'⟩ : ∃ x, x = K := ⟨_, rfl⟩
      obtain ⟨M', hM'⟩ : ∃ x, x = M := ⟨_, rfl⟩
      have hMb : M' ≤ 40 := by omega
      have hKb : K' ≤ 40 := by omega
      obtain ⟨wc, hwc⟩ : ∃ x, x = w1 := ⟨_, rfl⟩
      subst hwc hK' hM'
      have y1 := r1
      have y2 := r2
      have k1c : Kp (fun b => b = w.heap.size) wc wc := Kp.refl _ _
  all_goals
    obtain ⟨c, R1, R2, hA, hB, hS, hk1, hk2⟩ := cutU K' M' xs hKb hMb
    obtain ⟨nn, hLn⟩ := lengthU K' M' size hKb
    have HA : Hid (∀ (w : World) (p : Option Addr) (ca : Nat), Rb w p xs.length xs → Pows w → _) := hA
    have HBc : Hid (∀ (w : World) (p : Option Addr) (ca : Nat), Rb w p xs.length xs → _) := hB
    rw [← HN.out] at HA HBc h
    have HSm : Hid (∀ (w : World) (v u : Value), R1 w v → R2 w u → _) := hS
    have HK1 : Hid (∀ (w w' : World) (v : Value), R1 w v → Kp (fun _ => False) w w' → R1 w' v) := hk1
    have HK2 : Hid (∀ (w w' : World) (v : Value), R2 w v → Kp (fun _ => False) w w' → R2 w' v) := hk2
    have HLn : Hid (∀ w, _ ∧ _) := hLn
    clear hA hB hS hk1 hk2 hLn
    have kwc : Kp (fun _ => False) w _ := (ka.trans k1 (fun _ _ e => e)).trans k1c (fun b hb e => by omega)
    have rbc := rb1.keep k1c (fun a ha _ e => by have := HB1.out a ha; omega)
    refine (HA.out _ p1 c1 rbc (kwc.pows hp id)).mono ?_
    rintro e w2 ⟨v2, rfl, k2, hR1, hWc⟩
    have y1' := k2.cellv y1 id
    have y2' := k2.cellv y2 id
    have kw2 := kwc.trans k2 (fun _ _ e => e)
    have rb2 := rbc.keep0 k2
    have HR1 : Hid (R1 w2 v2) := hR1
    have HWc : Hid (Wc _ w2 v2) := hWc
    clear hR1 hWc y1 y2 r1 r2 f1 f2
    go_wp2_with fail
    refine (HBc.out _ p ca (h.keep0 kw2)).mono ?_
    rintro e w3 ⟨v3, rfl, k3, hR2⟩
    have u1 := k3.cellv y1' id
    have u2 := k3.cellv y2' id
    have kw3 := kw2.trans k3 (fun _ _ e => e)
    have rb3 := rb2.keep0 k3
    have HR1' : Hid (R1 w3 v2) := HK1.out _ _ _ HR1.out k3
    have HR2 : Hid (R2 w3 v3) := hR2
    have HWc3 := HWc.out.keep k3
    obtain ⟨J, W, hne, hW, hJ⟩ : ∃ (J : Type) (W : J → World), Nonempty J ∧ Hid (∀ j, Kp (fun _ => False) w3 (W j)) ∧ Hid (∀ x, Kp (fun _ => False) w3 x → ∃ j, x = W j) :=
      ⟨{x // Kp (fun _ => False) w3 x}, Subtype.val, ⟨⟨w3, Kp.refl _ _⟩⟩, fun j => j.2, fun x h => ⟨⟨x, h⟩, rfl⟩⟩
    have z1 : ∀ j, (W j).cell? ⟨w.heap.size, 0, none⟩ = some (.int .i64 K') := fun j => (hW.out j).cellv u1 id
    have z2 : ∀ j, (W j).cell? ⟨w.heap.size, 1, none⟩ = some (.int .i64 M') := fun j => (hW.out j).cellv u2 id
    have HSj : Hid (∀ j, Calls Tryd.prog 7 #[v2, v3] (W j) fun e w' => e = .returned (.bool true) ∧ w' = W j) := fun j => HSm.out _ _ _ (HK1.out _ _ _ HR1'.out (hW.out j)) (HK2.out _ _ _ HR2.out (hW.out j))
    have HWh : Hid (Wc _ w3 v2) := HWc3
    clear hR2 u1 u2 y1' y2' HSm HK1 HK2 HR1 HR2 HR1' HWc HWc3 HA HBc
    go_wp2
    refine wp_region_quiet_lit_C (C := fun w' => ∃ j, w' = W j) (by kernel_rfl) (by kernel_rfl) (hJ.out _ (Kp.refl _ _).drew) ?_
    repeat (first
      | quiet_step (first
        | (go_at_call 7; exact (HSj.out _).mono (fun e w'' ⟨he, hw⟩ => ⟨he, _, hw⟩))
        | (go_at_call 8; exact ((HLn.out _).1).mono (fun e w'' ⟨he, hk⟩ => ⟨he, hJ.out _ ((hW.out _).trans hk (fun _ _ e => e))⟩))
        | (go_at_call 9; exact ((HLn.out _).2).mono (fun e w'' ⟨he, hk⟩ => ⟨he, hJ.out _ ((hW.out _).trans hk (fun _ _ e => e))⟩))))
    refine wpQuiet_nil ?_
    rintro w' ⟨j, rfl⟩
    have kj := hW.out j
    have HWj : Hid (Wc _ (W j) v2) := HWh.out.keep kj
    have rbj := rb3.keep0 kj
    have kwj := kw3.trans kj (fun _ _ e => e)
    clear z1 z2 HSj hW hJ HWh hne
    go_wp2_with fail
    refine HWj.out.spoil.mono ?_
    rintro e w5 ⟨rfl, k5⟩
    have g1 := rbc.keepOld rbj k5
    have g2 := (h.keep0 kwc).keepOld (h.keep0 kwj) k5
    have zc := kwc.size
    have kw5 := kwj.trans k5 (fun b hb e => by omega)
    have HEq : Hid (Calls _ _ _ w5 _) := bytesEqual_run (.slice p1 n c1) (.slice p n ca) _ w5 (Bl.convert_bytes p1 n c1 xs w5 g1) (Bl.convert_bytes p n ca xs w5 g2)
    have HL16 : Hid (Calls _ _ _ w5 _) := length_yes 2 0 20 w5 (by omega) (by omega) (by omega)
    rw [len16] at HL16
    clear g1 g2 rbj HWj k5 rbc rb1 rb2 rb3
    go_wp2_with (first
      | (go_at_call 11; refine HEq.out.mono ?_; rintro e w' ⟨rfl, rfl⟩)
      | (go_at_call 8; refine HL16.out.mono ?_; rintro e w6 ⟨rfl, k6⟩))
    go_ret
    exact ⟨rfl, kw5.trans k6 (fun _ _ e => e)⟩
end Go.Proofs.YtnccnicgmjcdpaaDoor
