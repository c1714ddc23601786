/- Texts of this proof, joined: MfR4, MfR5, MfS3, MfKb2. -/
import Derived.Test.YtmncocmeafcpfaaDoorMgAF
import Derived.StillTailTactics
import Derived.Lib.Bytes
import Derived.Test.YtmncocmeafcpfaaDoorMgAG
import Derived.Test.YtmncocmeafcpfaaDoorMgAE
import Derived.Deep.AppendSrc
import Derived.Maps.AppendAt
import Derived.Laws.BytesArg
import Derived.Laws.BytesString
import Derived.OwnWalk
/- The walks of slices.EqualFunc, whatever the texts; of reed.Encode's error; of reed.Right. -/
namespace Go.Proofs.YtmncocmeafcpfaaDoor.Mf
open Go.RowKit Go.Deep

theorem strOf_ints_eq {f g : Nat → Nat} {n m : Nat} (hf : ∀ j, f j < 256) (hg : ∀ j, g j < 256) (h : (strOfNums (ints f n)).toList = (strOfNums (ints g m)).toList) : n = m ∧ ∀ c, c < n → f c = g c := by
  have hd := h
  simp only [Go.Lib.strOfNums_toList, Go.Lib.bytesOf] at hd
  have hl := congrArg List.length hd
  simp only [List.length_map, ints_length] at hl
  refine ⟨hl, fun c hc => ?_⟩
  have hc' := congrArg (fun l => l[c]?) hd
  simp only [ints, List.getElem?_map, List.getElem?_range hc, List.getElem?_range (show c < m by omega), Option.map_some, Option.some.injEq] at hc'
  have e := congrArg UInt8.toNat hc'
  simp only [Int.toNat_natCast, UInt8.toNat_ofNat'] at e
  rw [Nat.mod_eq_of_lt (hf c), Nat.mod_eq_of_lt (hg c)] at e
  exact e

set_option maxRecDepth 100000 in
set_option maxHeartbeats 800000 in
theorem bytesEqual_run_ne (v1 v2 : Value) (b b' : ByteArray) (w : World) (h1 : (convert 22 9 v1).run Tryd.prog w = .ok (.string b) w) (h2 : (convert 22 9 v2).run Tryd.prog w = .ok (.string b') w) (hq : (b.toList == b'.toList) = false) :
    Calls Tryd.prog 18 #[v1, v2] w fun e w' => e = .returned (.bool false) ∧ w' = w := by
  go_enter Tryd.func18, Tryd.ntmps18
  go_wp2
  go_ret
  exact ⟨rfl, rfl⟩

/-- the rows r of two texts are the same -/
def rowSame (s t : Sh) (r : Nat) : Prop := s.L r = t.L r ∧ ∀ c, c < s.L r → s.M r c = t.M r c
def sameS (s t : Sh) : Prop := s.G = t.G ∧ ∀ r, r < s.G → rowSame s t r
theorem bytesEqual_ne (s t : Sh) (r : Nat) (c1 c2 : Nat) (w : World) (hs : Rd w s) (ht : Rd w t) (hr : r < s.G) (hr' : r < t.G) (hn : ¬ rowSame s t r) :
    Calls Tryd.prog 18 #[.slice (s.A r) (s.L r) c1, .slice (t.A r) (t.L r) c2] w fun e w' => e = .returned (.bool false) ∧ w' = w := by
  refine bytesEqual_run_ne _ _ _ _ w (convert_row (s.A r) (s.RB r) (s.RO r) (s.L r) c1 (s.M r) w (hs.to r hr) (hs.cell r hr)) (convert_row (t.A r) (t.RB r) (t.RO r) (t.L r) c2 (t.M r) w (ht.to r hr') (ht.cell r hr')) ?_
  rw [beq_eq_false_iff_ne]
  exact fun e => hn (strOf_ints_eq (hs.byte r) (ht.byte r) e)

set_option maxRecDepth 100000 in
set_option maxHeartbeats 1600000 in
theorem encode_no (K M : Nat) (s : Sh) (w : World) (hs : Rd w s) (hG : s.G = K) (h1 : 1 ≤ (K : Int)) (h3 : (M : Int) ≤ 255 - (K : Int)) (hbad : (thereTo s.L K).length ≠ K ∨ alikeTo s.L K K = false) :
    Calls Tryd.prog 118 #[.agg #[.int .i64 K, .int .i64 M], .slice s.g K s.cap] w fun e w' =>
      e = .returned (.tuple #[.slice none 0 0, .int .i64 1]) ∧ Kp (fun _ => False) w w' := by
  subst hG
  obtain ⟨wa, hwa⟩ : ∃ x, x = w.alloc (.cells #[.int .i64 (s.G : Int), .int .i64 (M : Int)] 26) := ⟨_, rfl⟩
  have q1 : wa.cell? ⟨w.heap.size, 0, none⟩ = some (.int .i64 (s.G : Int)) := by rw [hwa]; go_simp
  have q2 : wa.cell? ⟨w.heap.size, 1, none⟩ = some (.int .i64 (M : Int)) := by rw [hwa]; go_simp
  have k0 : Kp (fun _ => False) w wa := by rw [hwa]; exact (Kp.refl _ _).alloc _
  have HC : Hid (Calls _ _ _ wa _) := can_yes s.G M wa h1 (by omega) h3
  have hnn : ((s.G : Int) != (s.G : Int)) = false := bne_self_eq_false _
  have HB : Hid ((thereTo s.L s.G).length ≠ s.G ∨ alikeTo s.L s.G s.G = false) := hbad
  clear hbad
  go_enter Tryd.func118, Tryd.ntmps118
  go_wp2_with fail
  rw [← hwa]
  refine HC.out.mono ?_
  rintro e w1 ⟨rfl, k1⟩
  have r1 := k1.cellv q1 id
  have r2 := k1.cellv q2 id
  have kk := k0.trans k1 (fun _ _ e => e)
  clear HC q1 q2 k0 k1 hwa
  have HK : Hid (Calls _ _ _ w1 _) := look_any s w1 (hs.keep kk) (by omega) h1
  go_wp2_with fail
  refine HK.out.mono ?_
  rintro e w2 ⟨v, rfl, k2, pa, ba, cv, rfl, _, _⟩
  have s1 := k2.cellv r1 id
  have s2 := k2.cellv r2 id
  have kk2 := kk.trans k2 (fun _ _ e => e)
  clear HK r1 r2
  by_cases hl : (thereTo s.L s.G).length = s.G
  · have hal : alikeTo s.L s.G s.G = false := HB.out.resolve_left (fun h => h hl)
    rw [hal, hl]
    clear hal hl
    go_wp2
    go_ret2
    exact ⟨rfl, kk2⟩
  · have hq : (((thereTo s.L s.G).length : Int) != (s.G : Int)) = true := bne_iff_ne.2 (by omega)
    generalize (thereTo s.L s.G).length = len at *
    generalize alikeTo s.L s.G s.G = al at *
    clear HB
    go_wp2
    go_ret2
    exact ⟨rfl, kk2⟩

end Go.Proofs.YtmncocmeafcpfaaDoor.Mf

/- The walks of reed.firstThere, reckon, Decode and Repair. -/
namespace Go.Proofs.YtmncocmeafcpfaaDoor.Mf
open Go.RowKit Go.Deep

/-- the places of the first K that are there -/
def firstK (L : Nat → Nat) (n K : Nat) : List Nat := (thereTo L n).take K
theorem firstK_len {L : Nat → Nat} {n K : Nat} (h : K ≤ (thereTo L n).length) : (firstK L n K).length = K := by unfold firstK; rw [List.length_take]; omega
theorem firstK_mem {L : Nat → Nat} {n K r : Nat} (h : r ∈ firstK L n K) : r < n ∧ 0 < L r := thereTo_mem.1 (List.mem_of_mem_take h)
theorem getD_mem {xs : List Nat} {j : Nat} (h : j < xs.length) : xs.getD j 0 ∈ xs := by
  rw [List.getD_eq_getElem?_getD, List.getElem?_eq_getElem h]; exact List.getElem_mem h
theorem firstK_inc {L : Nat → Nat} {n K : Nat} (j j' : Nat) (h1 : j < j') (h2 : j' < (firstK L n K).length) : (firstK L n K).getD j 0 < (firstK L n K).getD j' 0 := by
  have hp : (firstK L n K).Pairwise (· < ·) := (List.Pairwise.filter _ (List.pairwise_lt_range)).sublist (List.take_sublist _ _)
  rw [List.getD_eq_getElem?_getD, List.getElem?_eq_getElem (by omega), List.getD_eq_getElem?_getD, List.getElem?_eq_getElem h2]
  exact List.pairwise_iff_getElem.1 hp j j' (by omega) h2 h1
theorem alike_len {L : Nat → Nat} {n r : Nat} (h : alikeTo L n n = true) (hr : r < n) (h0 : 0 < L r) : L r = len0 L n := by
  have := of_decide_eq_true h r hr
  omega

set_option maxRecDepth 100000 in
set_option maxHeartbeats 1600000 in
theorem firstThere_any (K M : Nat) (s : Sh) (w : World) (hs : Rd w s) (hG : s.G = K + M) (h1 : 1 ≤ (K : Int)) (h3 : (M : Int) ≤ 255 - (K : Int)) :
    Calls Tryd.prog 113 #[.agg #[.int .i64 K, .int .i64 M], .slice s.g (K + M) s.cap] w fun e w' => Kp (fun _ => False) w w' ∧
      ((alikeTo s.L (K + M) (K + M) = false ∧ e = .returned (.tuple #[.slice none 0 0, .int .i64 1])) ∨
       (alikeTo s.L (K + M) (K + M) = true ∧ (thereTo s.L (K + M)).length < K ∧ e = .returned (.tuple #[.slice none 0 0, .int .i64 30])) ∨
       (alikeTo s.L (K + M) (K + M) = true ∧ K ≤ (thereTo s.L (K + M)).length ∧ ∃ v, e = .returned (.tuple #[v, .int .i64 0]) ∧ Nx w w' v (firstK s.L (K + M) K))) := by
  obtain ⟨wa, hwa, ka, za, q1, q2⟩ := code_alloc w K M
  have HC : Hid (Calls _ _ _ wa _) := can_yes K M wa h1 (by omega) h3
  have hneq' : (((K + M : Nat) : Int) != (K : Int) + (M : Int)) = false := by rw [show ((K + M : Nat) : Int) = (K : Int) + (M : Int) from by simp]; exact bne_self_eq_false _
  have hneq : ((K : Int) + (M : Int) != (K : Int) + (M : Int)) = false := bne_self_eq_false _
  go_enter Tryd.func113, Tryd.ntmps113
  go_wp2_with fail
  rw [← hwa]
  refine HC.out.mono ?_
  rintro e w1 ⟨rfl, k1⟩
  have r1 := k1.cellv q1 id
  have r2 := k1.cellv q2 id
  have kk := ka.trans k1 (fun _ _ e => e)
  clear HC q1 q2 hwa
  have HK : Hid (Calls _ _ _ w1 _) := look_any s w1 (hs.keep kk) (by omega) (by omega)
  rw [hG] at HK
  go_wp2_with fail
  refine HK.out.mono ?_
  rintro e w2 ⟨v, rfl, k2, hN⟩
  obtain ⟨pa, ba, cv, rfl, hx1, hx2⟩ := hN
  have s1 := k2.cellv r1 id
  have s2 := k2.cellv r2 id
  have kk2 := kk.trans k2 (fun _ _ e => e)
  have hsz := kk.size
  clear HK r1 r2 hneq hneq'
  by_cases hal : alikeTo s.L (K + M) (K + M) = true
  · rw [hal]
    by_cases hfew : (thereTo s.L (K + M)).length < K
    · have d1 : decide (((thereTo s.L (K + M)).length : Int) < (K : Int)) = true := by simp; omega
      have HF : Hid ((thereTo s.L (K + M)).length < K) := hfew
      have hfew' : ((thereTo s.L (K + M)).length : Int) < (K : Int) := by omega
      clear hx1 hx2
      go_wp2
      go_ret2
      exact ⟨kk2, Or.inr (Or.inl ⟨hal, HF.out, rfl⟩)⟩
    · have hK : K ≤ (thereTo s.L (K + M)).length := by omega
      obtain ⟨rfl, hb, hcv⟩ := hx1 (fun e => by rw [e] at hK; simp at hK; omega)
      have hN : Hid (Nx w w2 (.slice (some ⟨ba, 0, none⟩) K cv) (firstK s.L (K + M) K)) := ⟨some ⟨ba, 0, none⟩, ba, cv, by rw [firstK_len hK], fun _ => ⟨rfl, by omega, by rw [firstK_len hK]; omega⟩, fun j hj => by
        rw [firstK_len hK] at hj
        rw [hx2 j (by omega)]
        unfold firstK
        rw [List.getD_eq_getElem?_getD, List.getD_eq_getElem?_getD, List.getElem?_take_of_lt hj]⟩
      have HK2 : Hid (K ≤ (thereTo s.L (K + M)).length) := hK
      have d1 : decide (((thereTo s.L (K + M)).length : Int) < (K : Int)) = false := by simp; omega
      have d2 : ¬ ((thereTo s.L (K + M)).length : Int) < (K : Int) := by omega
      have d3 : (K : Int) ≤ (cv : Int) := by omega
      clear hx1 hx2
      go_wp2
      go_ret2
      exact ⟨kk2, Or.inr (Or.inr ⟨hal, HK2.out, _, rfl, hN.out⟩)⟩
  · have hal' : alikeTo s.L (K + M) (K + M) = false := by simpa using hal
    rw [hal']
    clear hx1 hx2 hal
    go_wp2
    go_ret2
    exact ⟨kk2, Or.inl ⟨hal', rfl⟩⟩
/-- the headers of the known shards, when r are laid -/
def heads4 (A : Nat → Option Addr) (n : Nat) (C : Nat → Nat) (r : Nat) : Nat → Value := fun j => if j < r then .slice (A j) n (C j) else .slice none 0 0
theorem heads4_succ (A : Nat → Option Addr) (n : Nat) (C : Nat → Nat) (r j : Nat) : heads4 A n C (r + 1) j = if j = r then .slice (A r) n (C r) else heads4 A n C r j := by
  unfold heads4
  by_cases e : j = r
  · subst e; simp
  · rw [if_neg e]
    by_cases h : j < r
    · rw [if_pos h, if_pos (by omega)]
    · rw [if_neg h, if_neg (by omega)]

set_option maxRecDepth 100000 in
set_option maxHeartbeats 3200000 in
theorem reckon_any (K M n n2 : Nat) (s : Sh) (w : World) (hs : Rd w s) (hG : s.G = K + M) (pf : Option Addr) (bf of_ cf : Nat) (l : Nat → Nat) (hpf : ∀ j, j < K → pf = some ⟨bf, of_, none⟩) (hfc : ∀ j, j < K → w.cell? ⟨bf, of_ + j, none⟩ = some (.int .i64 ((l j : Nat) : Int)))
    (hl : ∀ j, j < K → l j < K + M ∧ s.L (l j) = n ∧ ∀ j', j < j' → j' < K → l j < l j') (v2 : Value) (to : Nat → Nat) (ht : Ls w v2 n2 to) (hto : ∀ j, j < n2 → to j < K + M) (h1 : 1 ≤ (K : Int)) (h3 : (M : Int) ≤ 255 - (K : Int)) (g1 : 1 ≤ n2) (g2 : n2 ≤ 255) (hp : Pows w) (hn : (n : Int) ≤ 1000000) (hn1 : 1 ≤ (n : Int)) :
    Calls Tryd.prog 114 #[.agg #[.int .i64 K, .int .i64 M], .slice s.g (K + M) s.cap, .slice pf K cf, v2] w fun e w' =>
      ∃ t B W, e = .returned (.slice (some ⟨t, 0, none⟩) n2 n2) ∧ Kp (fun _ => False) w w' ∧ w.heap.size ≤ t ∧ (∀ i, i < n2 → w.heap.size ≤ B i) ∧ El (fun r => gen K (l r)) K K W ∧
        Mat w' t B n2 n (fun i p => prodTo (fun i k => prodTo (fun r => gen K (to r)) (right W K) K i k) (fun j q => s.M (l j) q) K i p) := by
  obtain ⟨wa, hwa, ka, za, q1, q2⟩ := code_alloc w K M
  have HG : Hid (Calls _ _ _ wa _) := generator_yes K M wa h1 h3 (ka.pows hp id)
  have HFC : Hid (∀ j, j < K → w.cell? ⟨bf, of_ + j, none⟩ = some (.int .i64 ((l j : Nat) : Int))) := hfc
  have HLL : Hid (∀ j, j < K → l j < K + M ∧ s.L (l j) = n ∧ ∀ j', j < j' → j' < K → l j < l j') := hl
  have HTO : Hid (∀ j, j < n2 → to j < K + M) := hto
  obtain rfl := hpf 0 (by omega)
  have Hsg : Hid (s.g = some ⟨s.gb, s.go, none⟩) := hs.at0 (by omega)
  have HGG : Hid (s.G = K + M) := hG
  have hmk := run_make_row' (P := Tryd.prog) 27 22 (.slice none 0 0) 24 Tryd.underlying27 info42 rfl .i64 .i64 K (by omega) (by omega)
  rw [Hsg.out]
  clear hpf hfc hl hto hG
  obtain ⟨p2, bt, ot, ct, rfl, ht1, ht2⟩ := ht
  have HT : Hid (∀ j, j < n2 → w.cell? ⟨bt, ot + j, none⟩ = some (.int .i64 ((to j : Nat) : Int))) := ht2
  obtain rfl := ht1 0 (by omega)
  clear ht1 ht2
  go_enter Tryd.func114, Tryd.ntmps114
  go_wp2_with fail
  rw [← hwa]
  refine HG.out.mono ?_
  rintro e w1 ⟨tg, Bg, rfl, k1, hMg⟩
  have kk1 := ka.trans k1 (fun _ _ e => e)
  have G1 := hMg.mx
  clear HG hwa q1 q2
  have HR : Hid (Calls _ _ _ w1 _) := rowsX _ (.slice (some ⟨bf, of_, none⟩) K cf) (K + M) K K (gen K) l w1 G1 ⟨_, bf, of_, cf, rfl, fun _ _ => rfl, fun j hj => kk1.cellv (HFC.out j hj) id⟩ (fun j hj => (HLL.out j hj).1) (by omega) (by omega) (by omega) (by omega) (by omega) (by omega)
  go_wp2_with fail
  refine HR.out.mono ?_
  rintro e w2 ⟨vh, rfl, k2, Hv⟩
  have kk2 := kk1.trans k2 (fun _ _ e => e)
  clear HR
  have HR2 : Hid (Calls _ _ _ w2 _) := rowsX _ (.slice (some ⟨bt, ot, none⟩) n2 ct) (K + M) K n2 (gen K) to w2 (G1.keep k2) ⟨_, bt, ot, ct, rfl, fun _ _ => rfl, fun j hj => kk2.cellv (HT.out j hj) id⟩ HTO.out (by omega) (by omega) (by omega) (by omega) (by omega) (by omega)
  go_wp2_with fail
  refine HR2.out.mono ?_
  rintro e w3 ⟨vw, rfl, k3, Wv⟩
  have kk3 := kk2.trans k3 (fun _ _ e => e)
  clear HR2
  have HN : Hid (∀ {j : Nat} {W : Nat → Nat → Nat}, El (fun r => gen K (l r)) K j W → j < K → ¬ NoPiv W K j) := fun h hj => any_no_fail (by omega) (fun j hj => ⟨by have := (HLL.out j hj).1; omega, (HLL.out j hj).2.2⟩) h hj
  have HI : Hid (Calls _ _ _ w3 _) := invertX _ K _ w3 (Hv.keep k3) (by omega) (by omega) (kk3.pows hp id)
  go_wp2_with fail
  refine HI.out.mono ?_
  rintro e w4 ⟨k4, ⟨rfl, j, W, hj, hE, hno⟩ | ⟨ti, W, rfl, hE, Iv⟩⟩
  · exact absurd hno (HN.out hE hj)
  clear HI HN
  have kk4 := kk3.trans k4 (fun _ _ e => e)
  have HM : Hid (Calls _ _ _ w4 _) := mulX _ _ n2 K K _ _ w4 (Wv.keep k4) Iv (by omega) (by omega) (by omega) (by omega) (by omega) (by omega) (kk4.pows hp id)
  go_wp2_with fail
  refine HM.out.mono ?_
  rintro e w5 ⟨vm, rfl, k5, Mv⟩
  have kk5 := kk4.trans k5 (fun _ _ e => e)
  clear HM
  have hz5 := kk5.size
  obtain ⟨w6, hw6⟩ : ∃ x, x = w5.alloc (.cells (madeCells #[.slice none 0 0] K) 22) := ⟨_, rfl⟩
  have k6 : Kp (fun _ => False) w5 w6 := by rw [hw6]; exact (Kp.refl _ _).alloc _
  have r6 : w6.rowIs w5.heap.size 22 K (heads4 (fun j => s.A (l j)) n (fun j => s.C (l j)) 0) := by
    rw [hw6]; exact (World.rowIs_made w5 _ K 22).congr (fun j _ => by simp [heads4])
  go_wp2
  rw [← hw6]
  clear hmk hw6
  go_loopg [55] K (fun gk i wr => ∃ r : Nat, r ≤ K ∧ gk = K - r ∧ i = .int .i64 r ∧ Kp (fun b => b = w5.heap.size) w6 wr ∧ wr.rowIs w5.heap.size 22 K (heads4 (fun j => s.A (l j)) n (fun j => s.C (l j)) r))
  case atStart => exact ⟨0, Nat.zero_le _, rfl, rfl, Kp.refl _ _, r6⟩
  case round =>
    obtain ⟨r, hr, rfl, rfl, hK, hT⟩ := hrel
    have kw : Kp (fun _ => False) w wr := (kk5.trans k6 (fun _ _ e => e)).trans hK (fun b hb e => by omega)
    by_cases hlt : (r : Int) < (K : Int)
    · have hlr := HLL.out r (by omega)
      have f1 := kw.cellv (HFC.out r (by omega)) id
      have f2 := kw.cellv (hs.hd (l r) (by rw [HGG.out]; exact hlr.1)) id
      rw [hlr.2.1] at f2
      have d1 : ((l r : Nat) : Int) < (K : Int) + (M : Int) := by have := hlr.1; omega
      have t1 := hT.cell (i := r) (by omega)
      have t2 := hT.frozen r
      have hT2 := (hT.set r (.slice (s.A (l r)) n (s.C (l r)))).congr (g := heads4 (fun j => s.A (l j)) n (fun j => s.C (l j)) (r + 1)) (fun j _ => by rw [heads4_succ])
      have HT2 : Hid _ := hT2
      clear hlr hT2
      go_wp2
      go_roundg (K - (r + 1))
      case rel => exact ⟨r + 1, by omega, rfl, by go_num, hK.setCell (a := ⟨w5.heap.size, r, none⟩) (fun _ => rfl) _, HT2.out⟩
      case measure => omega
    · have e : r = K := by omega
      have hk56 : Kp (fun _ => False) w5 wr := k6.trans hK (fun b hb e => by omega)
      obtain ⟨q, rfl, hq, hqG, hqL, hqM⟩ := Mv.keep hk56
      have hsk : Rd wr ⟨some ⟨w5.heap.size, 0, none⟩, K, K, w5.heap.size, 0, fun j => s.A (l j), fun _ => n, fun j => s.C (l j), fun j => s.RB (l j), fun j => s.RO (l j), fun j => s.M (l j)⟩ := by
        refine ⟨fun _ => rfl, fun j hj => ?_, fun j hj c hc => ?_, fun j hj c hc => ?_, fun j c => hs.byte _ _⟩
        · have := hT.cell (i := j) hj
          rw [show heads4 (fun j => s.A (l j)) n (fun j => s.C (l j)) r j = .slice (s.A (l j)) n (s.C (l j)) from by simp only at hj; simp [heads4, show j < r from by omega]] at this
          simpa using this
        · have h := HLL.out j hj
          exact hs.to (l j) (by rw [HGG.out]; exact h.1) c (by rw [h.2.1]; exact hc)
        · have h := HLL.out j hj
          exact kw.cellv (hs.cell (l j) (by rw [HGG.out]; exact h.1) c (by rw [h.2.1]; exact hc)) id
      have HX : Hid (Calls _ _ _ wr _) := mixAll_any q ⟨some ⟨w5.heap.size, 0, none⟩, K, K, w5.heap.size, 0, fun j => s.A (l j), fun _ => n, fun j => s.C (l j), fun j => s.RB (l j), fun j => s.RO (l j), fun j => s.M (l j)⟩ n wr hq hsk (fun r hr => hqL r (by omega)) (fun _ _ => rfl) (by omega) (by omega) (by show ((K : Nat) : Int) ≤ 1000; omega) h1 (kw.pows hp id) hn hn1
      have HE : Hid (El (fun r => gen K (l r)) K K W) := hE
      rw [hqG, hqM] at HX
      have hzw := kw.size
      have HQ : Hid (q.G = n2) := hqG
      clear hT hsk hq hqL hqM hE hs Mv Iv Wv Hv G1 hMg r6
      rw [show q.G = n2 from hqG]
      clear hqG
      go_wp2_with fail
      refine HX.out.mono ?_
      rintro e w7 ⟨B7, rfl, hP⟩
      go_wp2
      go_ret
      exact ⟨_, B7, W, rfl, kw.trans hP.kept (fun _ _ e => e), hzw, fun i hi => by have := hP.lo i hi; omega, HE.out, hP.mat (fun i j => prodTo_lt _ _ _ _ _)⟩
/-- all shards that the places xs fix, when W is what elimination finds -/
def decM (K : Nat) (M : Nat → Nat → Nat) (xs : List Nat) (W : Nat → Nat → Nat) (to : Nat → Nat) : Nat → Nat → Nat := fun i p => prodTo (fun i k => prodTo (fun r => gen K (to r)) (right W K) K i k) (fun j q => M (xs.getD j 0) q) K i p
theorem decM_lt (K : Nat) (M : Nat → Nat → Nat) (xs : List Nat) (W : Nat → Nat → Nat) (to : Nat → Nat) (i p : Nat) : decM K M xs W to i p < 256 := prodTo_lt _ _ _ _ _
/-- what is told of shards of a code word -/
theorem decM_enc {K : Nat} {D : Nat → Nat → Nat} (hD : ∀ i j, D i j < 256) {xs : List Nat} {W : Nat → Nat → Nat} (hE : El (fun r => gen K (xs.getD r 0)) K K W) {M : Nat → Nat → Nat} {p : Nat} (hM : ∀ j, j < K → M (xs.getD j 0) p = enc K D (xs.getD j 0) p) (to : Nat → Nat) (i : Nat) : decM K M xs W to i p = enc K D (to i) p := by
  rw [← dec_all hD (l := fun r => xs.getD r 0) (to := to) hE i p]
  unfold decM
  exact prodTo_congr (fun _ _ => rfl) (fun j hj => hM j hj)
/-- numbers that rise from nought, laid so far -/
def upInts (r : Nat) : Nat → Value := fun j => if j < r then .int .i64 (j : Int) else .int .i64 0
theorem upInts_succ (r j : Nat) : upInts (r + 1) j = if j = r then .int .i64 (r : Int) else upInts r j := by
  unfold upInts
  by_cases e : j = r
  · subst e; simp
  · rw [if_neg e]
    by_cases h : j < r
    · rw [if_pos h, if_pos (by omega)]
    · rw [if_neg h, if_neg (by omega)]
theorem firstK_all {L : Nat → Nat} {n K : Nat} (hal : alikeTo L n n = true) (hK : K ≤ (thereTo L n).length) (j : Nat) (hj : j < K) : (firstK L n K).getD j 0 < n ∧ L ((firstK L n K).getD j 0) = len0 L n ∧ ∀ j', j < j' → j' < K → (firstK L n K).getD j 0 < (firstK L n K).getD j' 0 := by
  have hm := firstK_mem (getD_mem (xs := firstK L n K) (j := j) (by rw [firstK_len hK]; exact hj))
  exact ⟨hm.1, alike_len hal hm.1 hm.2, fun j' h1 h2 => firstK_inc j j' h1 (by rw [firstK_len hK]; exact h2)⟩

set_option maxRecDepth 100000 in
set_option maxHeartbeats 3200000 in
theorem decode_any (K M : Nat) (s : Sh) (w : World) (hs : Rd w s) (hG : s.G = K + M) (h1 : 1 ≤ (K : Int)) (h3 : (M : Int) ≤ 255 - (K : Int)) (hp : Pows w) (hn : (len0 s.L (K + M) : Int) ≤ 1000000) :
    Calls Tryd.prog 129 #[.agg #[.int .i64 K, .int .i64 M], .slice s.g (K + M) s.cap] w fun e w' => Kp (fun _ => False) w w' ∧
      ((alikeTo s.L (K + M) (K + M) = false ∧ e = .returned (.tuple #[.slice none 0 0, .int .i64 1])) ∨
       (alikeTo s.L (K + M) (K + M) = true ∧ (thereTo s.L (K + M)).length < K ∧ e = .returned (.tuple #[.slice none 0 0, .int .i64 30])) ∨
       (alikeTo s.L (K + M) (K + M) = true ∧ K ≤ (thereTo s.L (K + M)).length ∧ ∃ t B W, e = .returned (.tuple #[.slice (some ⟨t, 0, none⟩) (K + M) (K + M), .int .i64 0]) ∧ w.heap.size ≤ t ∧ (∀ i, i < K + M → w.heap.size ≤ B i) ∧
          El (fun r => gen K ((firstK s.L (K + M) K).getD r 0)) K K W ∧ Mat w' t B (K + M) (len0 s.L (K + M)) (decM K s.M (firstK s.L (K + M) K) W (fun r => r)))) := by
  obtain ⟨wa, hwa, ka, za, q1, q2⟩ := code_alloc w K M
  have HC : Hid (Calls _ _ _ wa _) := firstThere_any K M s wa (hs.keep ka) hG h1 h3
  have hmk := run_make_row' (P := Tryd.prog) 23 3 (.int .i64 0) 8 Tryd.underlying23 infoInt rfl .i64 .i64 (K + M) (by omega) (by omega)
  rw [show ((K + M : Nat) : Int) = (K : Int) + (M : Int) from by simp] at hmk
  go_enter Tryd.func129, Tryd.ntmps129
  go_wp2_with fail
  rw [← hwa]
  refine HC.out.mono ?_
  rintro e w1 ⟨k1, ⟨hal, rfl⟩ | ⟨hal, hfew, rfl⟩ | ⟨hal, hK, v, rfl, hN⟩⟩
  · have HA : Hid (alikeTo s.L (K + M) (K + M) = false) := hal
    have kk := ka.trans k1 (fun _ _ e => e)
    clear hal hwa HC hs
    go_wp2
    go_ret2
    exact ⟨kk, Or.inl ⟨HA.out, rfl⟩⟩
  · have HA : Hid (alikeTo s.L (K + M) (K + M) = true ∧ (thereTo s.L (K + M)).length < K) := ⟨hal, hfew⟩
    have kk := ka.trans k1 (fun _ _ e => e)
    clear hal hfew hwa HC hs
    go_wp2
    go_ret2
    exact ⟨kk, Or.inr (Or.inl ⟨HA.out.1, HA.out.2, rfl⟩)⟩
  · obtain ⟨pf, bf, cf, rfl, hx1, hx2⟩ := hN
    rw [firstK_len hK] at hx2 ⊢
    obtain ⟨rfl, hbf, hcf⟩ := hx1 (fun e => by have := firstK_len hK; rw [e] at this; simp at this; omega)
    have hn1 : 1 ≤ len0 s.L (K + M) := by
      have := (firstK_all hal hK 0 (by omega)).2.1
      have hm := firstK_mem (getD_mem (xs := firstK s.L (K + M) K) (j := 0) (by rw [firstK_len hK]; omega))
      omega
    have HLL : Hid (∀ j, j < K → _) := firstK_all hal hK
    have HA : Hid (alikeTo s.L (K + M) (K + M) = true ∧ K ≤ (thereTo s.L (K + M)).length) := ⟨hal, hK⟩
    have HX2 : Hid (∀ k, k < K → w1.cell? ⟨bf, 0 + k, none⟩ = some (.int .i64 (((firstK s.L (K + M) K).getD k 0 : Nat) : Int))) := hx2
    obtain ⟨xs, hxs⟩ : ∃ x, x = firstK s.L (K + M) K := ⟨_, rfl⟩
    obtain ⟨n, hne⟩ : ∃ x, x = len0 s.L (K + M) := ⟨_, rfl⟩
    have HXS : Hid (firstK s.L (K + M) K = xs) := hxs.symm
    have HNE : Hid (len0 s.L (K + M) = n) := hne.symm
    rw [← hxs] at HX2 HLL
    rw [← hne] at HLL hn hn1
    have r1 := k1.cellv q1 id
    have r2 := k1.cellv q2 id
    have kk := ka.trans k1 (fun _ _ e => e)
    clear hx1 hx2 hal hK HC hwa hxs hne q1 q2
    obtain ⟨w2, hw2⟩ : ∃ x, x = w1.alloc (.cells (madeCells #[.int .i64 0] (K + M)) 3) := ⟨_, rfl⟩
    have k2 : Kp (fun _ => False) w1 w2 := by rw [hw2]; exact (Kp.refl _ _).alloc _
    have t2 : w2.rowIs w1.heap.size 3 (K + M) (upInts 0) := by rw [hw2]; exact (World.rowIs_made w1 _ (K + M) 3).congr (fun j _ => by simp [upInts])
    go_wp2
    rw [← hw2]
    clear hmk hw2
    go_loopg [27] (K + M) (fun gk i wr => ∃ r : Nat, r ≤ K + M ∧ gk = K + M - r ∧ i = .int .i64 r ∧ Kp (fun b => b = w1.heap.size) w2 wr ∧ wr.rowIs w1.heap.size 3 (K + M) (upInts r))
    case atStart => exact ⟨0, Nat.zero_le _, rfl, rfl, Kp.refl _ _, t2⟩
    case round =>
      obtain ⟨r, hr, rfl, rfl, hKr, hT⟩ := hrel
      by_cases hlt : (r : Int) < (K : Int) + (M : Int)
      · have e1 := hT.cell (i := r) (by omega)
        have e2 := hT.frozen r
        have HT2 : Hid _ := (hT.set r (.int .i64 (r : Int))).congr (g := upInts (r + 1)) (fun j _ => by rw [upInts_succ])
        go_wp2
        go_roundg (K + M - (r + 1))
        case rel => exact ⟨r + 1, by omega, rfl, by go_num, hKr.setCell (a := ⟨w1.heap.size, r, none⟩) (fun _ => rfl) _, HT2.out⟩
        case measure => omega
      · have e : r = K + M := by omega
        have k12 : Kp (fun _ => False) w1 wr := k2.trans hKr (fun b hb e => by omega)
        have kw := kk.trans k12 (fun _ _ e => e)
        have c1 := k12.cellv r1 id
        have c2 := k12.cellv r2 id
        have HK2 : Hid (Calls _ _ _ wr _) := reckon_any K M n (K + M) s wr (hs.keep kw) hG (some ⟨bf, 0, none⟩) bf 0 cf (fun j => xs.getD j 0) (fun _ _ => rfl) (fun j hj => k12.cellv (HX2.out j hj) id) HLL.out
          (.slice (some ⟨w1.heap.size, 0, none⟩) (K + M) (K + M)) (fun r => r) ⟨_, w1.heap.size, 0, K + M, rfl, fun _ _ => rfl, fun j hj => by
            have := hT.cell (i := j) hj
            rw [show upInts r j = .int .i64 (j : Int) from by simp [upInts, show j < r from by omega]] at this
            simpa using this⟩ (fun j hj => hj) h1 h3 (by omega) (by omega) (kw.pows hp id) hn (by omega)
        clear hT t2 hs hG
        go_wp2_with fail
        refine HK2.out.mono ?_
        rintro e w3 ⟨t, B, W, rfl, k3, h4, h5, hE, hMt⟩
        have HE : Hid (El _ _ _ W) := hE
        have hz := kw.size
        clear HK2 hE
        go_wp2
        go_ret2
        rw [HXS.out, HNE.out]
        exact ⟨kw.trans k3 (fun _ _ e => e), Or.inr (Or.inr ⟨HA.out.1, HA.out.2, t, B, W, rfl, by omega, fun i hi => by have := h5 i hi; omega, HE.out, hMt⟩)⟩
set_option maxRecDepth 100000 in
set_option maxHeartbeats 3200000 in
theorem repair_any (K M i : Nat) (s : Sh) (w : World) (hs : Rd w s) (hG : s.G = K + M) (h1 : 1 ≤ (K : Int)) (h3 : (M : Int) ≤ 255 - (K : Int)) (hi : (i : Int) < (K : Int) + (M : Int)) (hp : Pows w) (hn : (len0 s.L (K + M) : Int) ≤ 1000000) :
    Calls Tryd.prog 93 #[.agg #[.int .i64 K, .int .i64 M], .slice s.g (K + M) s.cap, .int .i64 i] w fun e w' => Kp (fun _ => False) w w' ∧
      ((alikeTo s.L (K + M) (K + M) = false ∧ e = .returned (.tuple #[.slice none 0 0, .int .i64 1])) ∨
       (alikeTo s.L (K + M) (K + M) = true ∧ (thereTo s.L (K + M)).length < K ∧ e = .returned (.tuple #[.slice none 0 0, .int .i64 30])) ∨
       (alikeTo s.L (K + M) (K + M) = true ∧ K ≤ (thereTo s.L (K + M)).length ∧ ∃ b W, e = .returned (.tuple #[.slice (some ⟨b, 0, none⟩) (len0 s.L (K + M)) (len0 s.L (K + M)), .int .i64 0]) ∧
          El (fun r => gen K ((firstK s.L (K + M) K).getD r 0)) K K W ∧ w'.rowIs b 5 (len0 s.L (K + M)) (By (decM K s.M (firstK s.L (K + M) K) W (fun _ => i) 0)))) := by
  obtain ⟨wa, hwa, ka, za, q1, q2⟩ := code_alloc w K M
  have HC0 : Hid (Calls _ _ _ wa _) := can_yes K M wa h1 (by omega) h3
  have d1 : decide (((K : Int) + (M : Int)) ≤ (i : Int)) = false := by simp; omega
  go_enter Tryd.func93, Tryd.ntmps93
  go_wp2_with fail
  rw [← hwa]
  refine HC0.out.mono ?_
  rintro e w0 ⟨rfl, k0⟩
  have ka0 := ka.trans k0 (fun _ _ e => e)
  have p1 := k0.cellv q1 id
  have p2 := k0.cellv q2 id
  clear HC0 q1 q2 hwa
  have HC : Hid (Calls _ _ _ w0 _) := firstThere_any K M s w0 (hs.keep ka0) hG h1 h3
  go_wp2_with fail
  refine HC.out.mono ?_
  rintro e w1 ⟨k1, ⟨hal, rfl⟩ | ⟨hal, hfew, rfl⟩ | ⟨hal, hK, v, rfl, hN⟩⟩
  · have HA : Hid (alikeTo s.L (K + M) (K + M) = false) := hal
    have kk := ka0.trans k1 (fun _ _ e => e)
    clear hal HC hs
    go_wp2
    go_ret2
    exact ⟨kk, Or.inl ⟨HA.out, rfl⟩⟩
  · have HA : Hid (alikeTo s.L (K + M) (K + M) = true ∧ (thereTo s.L (K + M)).length < K) := ⟨hal, hfew⟩
    have kk := ka0.trans k1 (fun _ _ e => e)
    clear hal hfew HC hs
    go_wp2
    go_ret2
    exact ⟨kk, Or.inr (Or.inl ⟨HA.out.1, HA.out.2, rfl⟩)⟩
  · obtain ⟨pf, bf, cf, rfl, hx1, hx2⟩ := hN
    rw [firstK_len hK] at hx2 ⊢
    obtain ⟨rfl, hbf, hcf⟩ := hx1 (fun e => by have := firstK_len hK; rw [e] at this; simp at this; omega)
    have hn1 : 1 ≤ len0 s.L (K + M) := by
      have := (firstK_all hal hK 0 (by omega)).2.1
      have hm := firstK_mem (getD_mem (xs := firstK s.L (K + M) K) (j := 0) (by rw [firstK_len hK]; omega))
      omega
    have HLL : Hid (∀ j, j < K → _) := firstK_all hal hK
    have HA : Hid (alikeTo s.L (K + M) (K + M) = true ∧ K ≤ (thereTo s.L (K + M)).length) := ⟨hal, hK⟩
    have HX2 : Hid (∀ k, k < K → w1.cell? ⟨bf, 0 + k, none⟩ = some (.int .i64 (((firstK s.L (K + M) K).getD k 0 : Nat) : Int))) := hx2
    obtain ⟨xs, hxs⟩ : ∃ x, x = firstK s.L (K + M) K := ⟨_, rfl⟩
    obtain ⟨n, hne⟩ : ∃ x, x = len0 s.L (K + M) := ⟨_, rfl⟩
    have HXS : Hid (firstK s.L (K + M) K = xs) := hxs.symm
    have HNE : Hid (len0 s.L (K + M) = n) := hne.symm
    rw [← hxs] at HX2 HLL
    rw [← hne] at HLL hn hn1
    have r1 := k1.cellv p1 id
    have r2 := k1.cellv p2 id
    have kk := ka0.trans k1 (fun _ _ e => e)
    clear hx1 hx2 hal hK HC hxs hne p1 p2
    obtain ⟨w2, hw2⟩ : ∃ x, x = w1.alloc (.cells #[.int .i64 ((i : Nat) : Int)] 3) := ⟨_, rfl⟩
    have k2 : Kp (fun _ => False) w1 w2 := by rw [hw2]; exact (Kp.refl _ _).alloc _
    have c0 : w2.cell? ⟨w1.heap.size, 0, none⟩ = some (.int .i64 ((i : Nat) : Int)) := by rw [hw2]; go_simp
    have kw := kk.trans k2 (fun _ _ e => e)
    have HK2 : Hid (Calls _ _ _ w2 _) := reckon_any K M n 1 s w2 (hs.keep kw) hG (some ⟨bf, 0, none⟩) bf 0 cf (fun j => xs.getD j 0) (fun _ _ => rfl) (fun j hj => k2.cellv (HX2.out j hj) id) HLL.out
      (.slice (some ⟨w1.heap.size, 0, none⟩) 1 1) (fun _ => i) ⟨_, w1.heap.size, 0, 1, rfl, fun _ _ => rfl, fun j hj => by
        have : j = 0 := by omega
        subst this; exact c0⟩ (fun j hj => by omega) h1 h3 (by omega) (by omega) (kw.pows hp id) hn (by omega)
    clear hs hG c0
    go_wp2_with fail
    rw [← hw2]
    refine HK2.out.mono ?_
    rintro e w3 ⟨t, B, W, rfl, k3, h4, h5, hE, hMt⟩
    have HE : Hid (El _ _ _ W) := hE
    have a0 := hMt.top.cell (i := 0) (by omega)
    have HR : Hid _ := hMt.row 0 (by omega)
    clear HK2 hE hw2 hMt
    go_wp2
    go_ret2
    rw [HXS.out, HNE.out]
    exact ⟨kw.trans k3 (fun _ _ e => e), Or.inr (Or.inr ⟨HA.out.1, HA.out.2, B 0, W, rfl, HE.out, HR.out⟩)⟩
end Go.Proofs.YtmncocmeafcpfaaDoor.Mf

/- The walks of slices.IndexFunc and ContainsFunc at Join's test, and of stripe.Join. -/
namespace Go.Proofs.YtmncocmeafcpfaaDoor.Mf
open Go.RowKit Go.Deep

/-- a text that is neither empty nor of n bytes -/
def oddLen (L n : Nat) : Bool := decide (L ≠ 0 ∧ L ≠ n)

set_option maxRecDepth 100000 in
set_option maxHeartbeats 800000 in
theorem joinTest_any (src : Option Addr) (L c lb n : Nat) (w : World) (hb : w.cell? ⟨lb, 0, none⟩ = some (.int .i64 (n : Int))) :
    Calls Tryd.prog 128 #[.slice src L c, .pointer (some ⟨lb, 0, none⟩)] w fun e w' => e = .returned (.bool (oddLen L n)) ∧ w' = w := by
  by_cases h0 : L = 0
  · have HO : Hid (oddLen L n = false) := decide_eq_false (by omega)
    have d0 : ((L : Int) != 0) = false := by rw [h0]; rfl
    clear h0
    go_enter Tryd.func128, Tryd.ntmps128
    go_wp2
    go_ret
    exact ⟨by rw [HO.out]; rfl, rfl⟩
  · have d0 : ((L : Int) != 0) = true := bne_iff_ne.2 (by omega)
    by_cases h1 : L = n
    · have HO : Hid (oddLen L n = false) := decide_eq_false (by omega)
      have d1 : ((L : Int) != (n : Int)) = false := by rw [h1]; exact bne_self_eq_false _
      clear h0 h1
      go_enter Tryd.func128, Tryd.ntmps128
      go_wp2
      go_ret
      exact ⟨by rw [HO.out]; rfl, rfl⟩
    · have HO : Hid (oddLen L n = true) := decide_eq_true ⟨h0, h1⟩
      have d1 : ((L : Int) != (n : Int)) = true := bne_iff_ne.2 (by omega)
      clear h0 h1
      go_enter Tryd.func128, Tryd.ntmps128
      go_wp2
      go_ret
      exact ⟨by rw [HO.out]; rfl, rfl⟩

set_option maxRecDepth 100000 in
set_option maxHeartbeats 1600000 in
theorem indexFunc_no (s : Sh) (lb n : Nat) (w : World) (hs : Rd w s) (h0 : 1 ≤ (s.G : Int)) (hG : (s.G : Int) ≤ 1000000000000) (hb : w.cell? ⟨lb, 0, none⟩ = some (.int .i64 (n : Int))) (hno : ∀ r, r < s.G → oddLen (s.L r) n = false) :
    Calls Tryd.prog 146 #[.slice s.g s.G s.cap, .func (.func 128) #[] #[.pointer (some ⟨lb, 0, none⟩)]] w fun e w' => e = .returned (.int .i64 (-1)) ∧ w' = w := by
  rw [hs.at0 (by omega)]
  have HN : Hid (∀ r, r < s.G → oddLen (s.L r) n = false) := hno
  clear hno
  go_enter Tryd.func146, Tryd.ntmps146
  go_wp2
  go_loopg [8] s.G (fun gk i wr => ∃ k : Nat, k ≤ s.G ∧ gk = s.G - k ∧ i = .int .i64 k ∧ wr = w)
  case atStart => exact ⟨0, Nat.zero_le _, rfl, rfl, rfl⟩
  case round =>
    obtain ⟨k, hk, rfl, rfl, rfl⟩ := hrel
    by_cases hlt : (k : Int) < (s.G : Int)
    · have c1 := hs.hd k (by omega)
      have HJ : Hid (∀ p c, Calls _ _ #[.slice p _ c, _] wr _) := fun p c => joinTest_any p (s.L k) c lb n wr hb
      rw [HN.out k (by omega)] at HJ
      go_wp2_with fail
      refine (HJ.out _ _).mono ?_
      rintro e w2 ⟨rfl, hw⟩
      obtain rfl := hw.symm
      go_wp2
      go_roundg (s.G - (k + 1))
      case rel => exact ⟨k + 1, by omega, rfl, by go_num, rfl⟩
      case measure => omega
    · go_wp2
      go_ret
      exact ⟨rfl, rfl⟩

set_option maxRecDepth 100000 in
set_option maxHeartbeats 800000 in
theorem containsFunc_no (s : Sh) (lb n : Nat) (w : World) (hs : Rd w s) (h0 : 1 ≤ (s.G : Int)) (hG : (s.G : Int) ≤ 1000000000000) (hb : w.cell? ⟨lb, 0, none⟩ = some (.int .i64 (n : Int))) (hno : ∀ r, r < s.G → oddLen (s.L r) n = false) :
    Calls Tryd.prog 127 #[.slice s.g s.G s.cap, .func (.func 128) #[] #[.pointer (some ⟨lb, 0, none⟩)]] w fun e w' => e = .returned (.bool false) ∧ w' = w := by
  have HI : Hid (Calls _ _ _ w _) := indexFunc_no s lb n w hs h0 hG hb hno
  clear hno hs
  go_enter Tryd.func127, Tryd.ntmps127
  go_wp2_with fail
  refine HI.out.mono ?_
  rintro e w2 ⟨rfl, hw⟩
  obtain rfl := hw.symm
  go_wp2
  go_ret
  exact ⟨rfl, rfl⟩

set_option maxRecDepth 100000 in
set_option maxHeartbeats 3200000 in
theorem join_yes (K M size : Nat) (s : Sh) (w : World) (hs : Rd w s) (hG : s.G = K + M) (h1 : 1 ≤ (K : Int)) (h3 : (M : Int) ≤ 255 - (K : Int)) (hsz : (size : Int) ≤ 400) (hno : ∀ r, r < K + M → oddLen (s.L r) (lenOf K size) = false)
    (hal : alikeTo s.L (K + M) (K + M) = true) (hen : K ≤ (thereTo s.L (K + M)).length) (hln : len0 s.L (K + M) = lenOf K size) (hp : Pows w) :
    Calls Tryd.prog 115 #[.agg #[.int .i64 K, .int .i64 M], .int .i64 size, .slice s.g (K + M) s.cap] w fun e w' => ∃ b W, e = .returned (.tuple #[.slice (some ⟨b, 0, none⟩) size size, .int .i64 0]) ∧ Kp (fun _ => False) w w' ∧
      El (fun r => gen K ((firstK s.L (K + M) K).getD r 0)) K K W ∧ w'.rowIs b 5 size (By (fun i => decM K s.M (firstK s.L (K + M) K) W (fun r => r) (seatK K i) (seatAt K i))) := by
  obtain ⟨wa, hwa, ka, za, q1, q2⟩ := code_alloc w K M
  have HC : Hid (Calls _ _ _ wa _) := length_yes K M size wa h1 h3 hsz
  obtain ⟨l1, l2⟩ := lenOf_bd (K := K) (size := size) (by omega) (by omega)
  have HSL : Hid (∀ i, i < size → seatAt K i < lenOf K size) := fun i hi => seatAt_lt (by omega) hi
  obtain ⟨N, hN⟩ : ∃ x, x = lenOf K size := ⟨_, rfl⟩
  rw [← hN] at HC l1 l2 HSL hno hln
  clear hN
  have dN : ((N : Int) == 0) = false := beq_eq_false_iff_ne.2 (by omega)
  have hneq' : (((K + M : Nat) : Int) != (K : Int) + (M : Int)) = false := by rw [show ((K + M : Nat) : Int) = (K : Int) + (M : Int) from by simp]; exact bne_self_eq_false _
  have hneq : ((K : Int) + (M : Int) != (K : Int) + (M : Int)) = false := bne_self_eq_false _
  have HNO : Hid (∀ r, r < K + M → oddLen (s.L r) N = false) := hno
  have HAL : Hid (alikeTo s.L (K + M) (K + M) = true ∧ K ≤ (thereTo s.L (K + M)).length ∧ len0 s.L (K + M) = N) := ⟨hal, hen, hln⟩
  have hmk := run_make_row' (P := Tryd.prog) 22 5 (.int .u8 0) 1 Tryd.underlying22 info5 rfl .i64 .i64 size (by omega) (by omega)
  clear hno hal hen hln
  go_enter Tryd.func115, Tryd.ntmps115
  go_wp2_with fail
  rw [← hwa]
  refine HC.out.mono ?_
  rintro e w1 ⟨rfl, k1⟩
  have r1 := k1.cellv q1 id
  have r2 := k1.cellv q2 id
  have kk := ka.trans k1 (fun _ _ e => e)
  obtain ⟨w2, hw2⟩ : ∃ x, x = w1.alloc (.cells #[.int .i64 (N : Int)] 3) := ⟨_, rfl⟩
  have k2 : Kp (fun _ => False) w1 w2 := by rw [hw2]; exact (Kp.refl _ _).alloc _
  have cN : w2.cell? ⟨w1.heap.size, 0, none⟩ = some (.int .i64 (N : Int)) := by rw [hw2]; go_simp
  have kk2 := kk.trans k2 (fun _ _ e => e)
  have HCf : Hid (Calls _ _ _ w2 _) := containsFunc_no s w1.heap.size N w2 (hs.keep kk2) (by omega) (by omega) cN (by rw [hG]; exact HNO.out)
  rw [hG] at HCf
  have hlw : w.heap.size ≠ w1.heap.size := by have := k1.size; omega
  have s1u := k2.cellv r1 id
  have s2u := k2.cellv r2 id
  rw [hw2] at s1u s2u
  clear hwa HC q1 q2
  go_wp2_with fail
  rw [← hw2]
  clear hw2 s1u s2u
  refine HCf.out.mono ?_
  rintro e w3 ⟨rfl, hw⟩
  obtain rfl := hw.symm
  clear HCf hneq hneq' dN
  have s1 := k2.cellv r1 id
  have s2 := k2.cellv r2 id
  have HDc : Hid (Calls _ _ _ w2 _) := decode_any K M s w2 (hs.keep kk2) hG h1 h3 (kk2.pows hp id) (by rw [HAL.out.2.2]; omega)
  go_wp2_with fail
  refine HDc.out.mono ?_
  rw [HAL.out.1]
  rintro e w4 ⟨k4, ⟨hal, rfl⟩ | ⟨_, hfew, rfl⟩ | ⟨_, _, t, B, W, rfl, _, _, hE, hMt⟩⟩
  · cases hal
  · have := HAL.out.2.1; omega
  · rw [HAL.out.2.2] at hMt
    have u1 := k4.cellv s1 id
    have u2 := k4.cellv s2 id
    have kk4 := kk2.trans k4 (fun _ _ e => e)
    have HE : Hid (El _ K K W) := hE
    obtain ⟨Z, hZ⟩ : ∃ x, x = decM K s.M (firstK s.L (K + M) K) W (fun r => r) := ⟨_, rfl⟩
    have HZ : Hid (decM K s.M (firstK s.L (K + M) K) W (fun r => r) = Z) := hZ.symm
    rw [← hZ] at hMt
    obtain ⟨w5, hw5⟩ : ∃ x, x = w4.alloc (.cells (madeCells #[.int .u8 0] size) 5) := ⟨_, rfl⟩
    have k5 : Kp (fun _ => False) w4 w5 := by rw [hw5]; exact (Kp.refl _ _).alloc _
    have r5 : w5.rowIs w4.heap.size 5 size (By (upTo (fun i => Z (seatK K i) (seatAt K i)) 0)) := by rw [hw5, upTo_zero]; exact World.rowIs_made w4 _ size 5
    have hMt5 := hMt.keep k5 id (fun _ _ => id)
    have htl := hMt.top.lt
    have hBl : Hid (∀ i, i < K + M → B i < w4.heap.size) := fun i hi => (hMt.row i hi).lt
    clear HDc hE hZ hMt HAL hs HNO
    go_wp2
    rw [← hw5]
    clear hw5 hmk
    go_loopg [46] size (fun gk i wr => ∃ r : Nat, r ≤ size ∧ gk = size - r ∧ i = .int .i64 r ∧ Kp (fun b => b = w4.heap.size) w5 wr ∧ wr.rowIs w4.heap.size 5 size (By (upTo (fun i => Z (seatK K i) (seatAt K i)) r)))
    case atStart => exact ⟨0, Nat.zero_le _, rfl, rfl, Kp.refl _ _, r5⟩
    case round =>
      obtain ⟨r, hr, rfl, rfl, hK, hT⟩ := hrel
      clear r5
      by_cases hlt : (r : Int) < (size : Int)
      · have c1 := hK.cellv (k5.cellv u1 id) (by have := World.block_lt_of_cell? _ _ u1; simp at this; show w.heap.size ≠ w4.heap.size; omega)
        have c2 := hK.cellv (k5.cellv u2 id) (by have := World.block_lt_of_cell? _ _ u1; simp at this; show w.heap.size ≠ w4.heap.size; omega)
        have HS : Hid (Calls _ _ _ wr _) := seat_any K M r wr (by omega) (by omega) (by omega)
        go_wp2_with fail
        refine HS.out.mono ?_
        rintro e w6 ⟨rfl, k6⟩
        clear HS
        have sK := seatK_lt (K := K) (by omega) r
        have sA := HSL.out r (by omega)
        have HR : Hid (∀ x, x = Z (seatK K r) (seatAt K r) → (w6.setCell ⟨w4.heap.size, r, none⟩ (.int .u8 ((x : Nat) : Int))).rowIs w4.heap.size 5 size (By (upTo (fun i => Z (seatK K i) (seatAt K i)) (r + 1)))) := fun x hx => ((k6.row hT id).set r _).congr (fun j _ => by
          simp only [By]
          rw [upTo_succ]
          split
          · rw [hx]
          · rfl)
        generalize seatK K r = SK at *
        generalize seatAt K r = SA at *
        have hM6 := (hMt5.keep hK (by omega) (fun i hi => by have := hBl.out i hi; omega)).keep k6 id (fun _ _ => id)
        have t1 := hM6.top.cell (i := SK) (by omega)
        have t2 := (hM6.row SK (by omega)).cell (i := SA) (by omega)
        have t3 := (k6.row hT id).cell (i := r) (by omega)
        have t4 := (k6.row hT id).frozen r
        simp only [By] at t2
        have t5 : (SK : Int) < (K : Int) + (M : Int) := by omega
        have t6 : (SA : Int) < (N : Int) := by omega
        have kr := hK.trans k6 (fun _ _ e => e.elim)
        clear hM6 hT c1 c2
        go_wp2
        go_roundg (size - (r + 1))
        case rel => exact ⟨r + 1, by omega, rfl, by go_num, kr.setCell (a := ⟨w4.heap.size, r, none⟩) (fun _ => rfl) _, HR.out _ rfl⟩
        case measure => omega
      · have e : r = size := by omega
        subst e
        have kf : Kp (fun _ => False) w wr := (kk4.trans k5 (fun _ _ e => e)).trans hK (fun b hb e => by have := kk4.size; omega)
        go_wp2
        go_ret2
        refine ⟨_, rfl, kf, W, HE.out, ?_⟩
        rw [HZ.out]
        exact hT.congr (fun j hj => by simp only [By, upTo]; rw [if_pos hj])
end Go.Proofs.YtmncocmeafcpfaaDoor.Mf

/- Bytes as lists, over the memory of Mem (laid by mk_kb2.py out of Kb.t). -/
namespace Go.Proofs.YtmncocmeafcpfaaDoor.Mf
namespace Bl
open Go.RowKit Go.Deep

theorem ownsRow_keep {S : Nat → Prop} {w w' : World} {base : Nat} {e : TypeId} {size : Nat} {v : Value} {n : Nat} {xs : List Value} (h : w.ownsRow base e size v n xs) (k : Kp S w w') (hS : ∀ g, v.ownBlock = some g → ¬ S g) : w'.ownsRow base e size v n xs := by
  obtain ⟨h1, h2⟩ := h
  refine ⟨h1, ?_⟩
  rcases h2 with h2 | ⟨g, cap, cur, rfl, hb, hh, hr⟩
  · exact Or.inl h2
  · refine Or.inr ⟨g, cap, cur, rfl, hb, ?_, hr⟩
    rw [k.block g (Array.getElem?_eq_some_iff.1 hh).1 (hS g rfl), hh]
theorem ownsRow_base {w : World} {base base' : Nat} {e : TypeId} {size : Nat} {v : Value} {n : Nat} {xs : List Value} (h : w.ownsRow base e size v n xs) (hb : base' ≤ base) : w.ownsRow base' e size v n xs := by
  obtain ⟨h1, h2⟩ := h
  refine ⟨h1, ?_⟩
  rcases h2 with h2 | ⟨g, cap, cur, rfl, hb', hr⟩
  · exact Or.inl h2
  · exact Or.inr ⟨g, cap, cur, rfl, Nat.le_trans hb hb', hr⟩

theorem Kp.app {w0 w w' : World} {e : TypeId} {size : Nat} {v : Value} {n : Nat} {xs : List Value} (k0 : Kp (fun _ => False) w0 w) (ho : w.ownsRow w0.heap.size e size v n xs) (k : Kp (fun b => v.ownBlock = some b) w w') : Kp (fun _ => False) w0 w' :=
  k0.trans k (fun b hb e => by have := (ownBlock_lt ho e).1; omega)

section
variable {P : Program} (w : World)
/-- append of whatever, onto a slice of one's own -/
theorem run_append_own_src (base : Nat) (t tx ty e : TypeId) (i : TypeInfo) (z : Value) (size bytes : Nat) (ht : P.underlying t = some (.slice e)) (hi : P.info? e = some i) (hz : i.zero = some z)
    (hsize : i.size = size) (hby : i.bytes = bytes) (hzs : z.cells.size = size) (hsz : 0 < size)
    (v : Value) (n : Nat) (xs : List Value) (hown : w.ownsRow base e size v n xs)
    (x : Value) (m : Nat) (news : List Value) (hs : Src P size tx x m news w)
    (h63 : n + m ≤ maxLen) (hbytes : (n + m) * bytes ≤ 140737488355328) (hbase : base ≤ w.heap.size) :
    ∃ v' w', (Builtin.append_ #[t, tx] ty #[v, x]).run P w = .ok v' w' ∧ w'.ownsRow base e size v' (n + m) (xs ++ news) ∧ w.grownBy w' v.ownBlock ∧ (v'.ownBlock = v.ownBlock ∨ v'.ownBlock = some w.heap.size) := by
  subst hsize
  subst hby
  have hl := hs.newsLen
  have h1 := hs.one
  have hsmall : n + m ≤ 9223372036854775807 := by simp only [maxLen] at h63; omega
  have hlen : (xs ++ news).length = (n + m) * i.size := by rw [List.length_append, hown.1, hl, Nat.add_mul]
  have grown : ∀ (old : Nat), old < n + m → ∀ (row : Option Nat),
      (w.drew.alloc (.cells ((xs ++ news).toArray ++ Builtin.zeroCells z.cells (grownCap w (n + m) old e - (n + m))) e)).ownsRow base e i.size
        (.slice (some ⟨w.heap.size, 0, none⟩) (n + m) (grownCap w (n + m) old e)) (n + m) (xs ++ news) ∧
      w.grownBy (w.drew.alloc (.cells ((xs ++ news).toArray ++ Builtin.zeroCells z.cells (grownCap w (n + m) old e - (n + m))) e)) row := by
    intro old ho row
    have hge := grownCap_ge w (n + m) old e
    have hcm : grownCap w (n + m) old e ≤ maxLen := grownCap_le_maxLen w (n + m) old e h63
    refine ⟨⟨hlen, .inr ⟨w.heap.size, _, _, rfl, hbase, heap_alloc_new w.drew _, hge, hcm, ?_, ?_⟩⟩, ⟨rfl, rfl, rfl, by simp, fun k hk _ => heap_alloc_old w.drew _ hk⟩⟩
    · simp only [Array.size_append, List.size_toArray, size_zeroCells, hzs, hlen, ← Nat.add_mul]
      congr 1
      omega
    · simp only [Array.toList_append]
      rw [← hlen]
      exact List.take_left
  rcases hown.2 with ⟨rfl, rfl⟩ | ⟨g, cap, cur, rfl, hbg, hg, hnc, hcm, hcs, htake⟩
  · have hx : xs = [] := List.eq_nil_of_length_eq_zero (by simpa using hown.1)
    subst hx
    by_cases hm : m = 0
    · subst hm
      have hn : news = [] := List.eq_nil_of_length_eq_zero (by simpa using hl)
      subst hn
      refine ⟨.slice none 0 0, w, ?_, World.ownsRow_nil w base e i.size, ⟨rfl, rfl, rfl, Nat.le_refl _, fun _ _ _ => rfl⟩, Or.inl rfl⟩
      rcases hs.kind with ⟨e', hk⟩ | hk <;> simp [Builtin.append_, run_underlying ht, run_underlying hk, sizeOf, typeInfo, hi, hs.len, hs.cells]
    · have hr := run_append_grow_src (P := P) w t tx ty e i z ht hi hz none 0 0 [] (run_firstCells_none w.drew i.size 0 0 0) x m news hs (by omega) (by omega) (growslice_fits (by omega) hbytes)
      have hgr := grown 0 (by omega) (Value.ownBlock (.slice none 0 0))
      exact ⟨_, _, hr, hgr.1, hgr.2, Or.inr rfl⟩
  · by_cases hroom : n + m ≤ cap
    · have hfit : n * i.size + news.length ≤ cur.size := by rw [hl, hcs, ← Nat.add_mul]; exact Nat.mul_le_mul_right _ hroom
      have hst := run_storeCells_at P g (n * i.size) e news 0 cur w hg (by simpa using hfit) h1
      simp only [Nat.add_zero] at hst
      have hr : (Builtin.append_ #[t, tx] ty #[.slice (some ⟨g, 0, none⟩) n cap, x]).run P w =
          .ok (.slice (some ⟨g, 0, none⟩) (n + m) cap) (w.setRow g (cur.toList.take (n * i.size) ++ news ++ cur.toList.drop (n * i.size + news.length)).toArray) := by
        rcases hs.kind with ⟨e', hk⟩ | hk <;> simp [Builtin.append_, run_underlying ht, run_underlying hk, sizeOf, typeInfo, hi, hs.len, hs.cells, hroom, Addr.add_lit, hst]
      refine ⟨_, _, hr, ⟨hlen, .inr ⟨g, cap, _, rfl, hbg, setRow_heap w g cur _ e _ hg, hroom, hcm, ?_, ?_⟩⟩, ⟨rfl, rfl, rfl, by simp, fun k _ hk => setRow_other w g k _ (fun e => hk (by simp [Value.ownBlock, e]))⟩, Or.inl rfl⟩
      · simp only [List.size_toArray, List.length_append, List.length_take, List.length_drop, Array.length_toList]
        omega
      · rw [htake, ← hlen]
        exact List.take_left
    · have holds : ∀ j u, xs[j]? = some u → w.drew.cell? ((⟨g, 0, none⟩ : Addr).add j) = some u := by simpa using hown.cells (g := g) rfl
      have hr := run_append_grow_src (P := P) w t tx ty e i z ht hi hz (some ⟨g, 0, none⟩) n cap xs (run_firstCells_some w.drew i.size n ⟨g, 0, none⟩ n cap xs hown.1 holds) x m news hs (by omega) (by omega) (growslice_fits (by omega) hbytes)
      have hgr := grown cap (by omega) (Value.ownBlock (.slice (some ⟨g, 0, none⟩) n cap))
      exact ⟨_, _, hr, hgr.1, hgr.2, Or.inr rfl⟩
theorem wpList_append_own_src {ops : Array Oper} {rest : List Oper} {o : Oper} {a : Act} {Q : Exit → Act → World → Prop} (hgd : o.guard = none) (s y : Operand) (t tx : TypeId)
    (ho : o.op = .call { callee := .builtin .append, args := #[s, y], argTypes := #[t, tx] })
    (base : Nat) (e : TypeId) (i : TypeInfo) (z : Value) (size bytes : Nat) (ht : P.underlying t = some (.slice e)) (hi : P.info? e = some i) (hz : i.zero = some z)
    (hsize : i.size = size) (hby : i.bytes = bytes) (hzs : z.cells.size = size) (hsz : 0 < size)
    (v : Value) (n : Nat) (xs : List Value) (hs : a.eval s = v) (hown : w.ownsRow base e size v n xs)
    (x : Value) (m : Nat) (news : List Value) (hx : a.eval y = x) (hsrc : Src P size tx x m news w)
    (h63 : n + m ≤ maxLen) (hbytes : (n + m) * bytes ≤ 140737488355328) (hbase : base ≤ w.heap.size)
    (h : ∀ v' w', w'.ownsRow base e size v' (n + m) (xs ++ news) → w.grownBy w' v.ownBlock → (v'.ownBlock = v.ownBlock ∨ v'.ownBlock = some w.heap.size) → wpList P ops Q rest (a.put o.dst v') w') :
    wpList P ops Q (o :: rest) a w := by
  refine wpList_plain hgd fun K hK => ?_
  obtain ⟨v', w', hr, h2, h3, h4⟩ := run_append_own_src (P := P) w base t tx o.type e i z size bytes ht hi hz hsize hby hzs hsz v n xs hown x m news hsrc h63 hbytes hbase
  unfold Oper.wp execOp
  simp only [ho, resolve, invoke, builtin, Sem.run_bind, Sem.run_pure, Result.andThen_ok, List.map_toArray, List.map_cons, List.map_nil, hs, hx, hr]
  exact hK _ _ (h v' w' h2 h3 h4)
end

/-- bytes, as cells -/
def vl (xs : List Nat) : List Value := xs.map fun x => Value.int .u8 ((x : Nat) : Int)
theorem vl_length (xs : List Nat) : (vl xs).length = xs.length := by simp [vl]
theorem vl_append (xs ys : List Nat) : vl (xs ++ ys) = vl xs ++ vl ys := by simp [vl]
theorem vl_get {xs : List Nat} {j : Nat} (hj : j < xs.length) : (vl xs)[j]? = some (.int .u8 ((xs.getD j 0 : Nat) : Int)) := by
  unfold vl
  rw [List.getElem?_map, List.getElem?_eq_getElem hj, Option.map_some, List.getD_eq_getElem?_getD, List.getElem?_eq_getElem hj]; rfl
theorem vl_one (xs : List Nat) : ∀ u ∈ vl xs, u.oneCell' = true := fun u hu => by
  obtain ⟨_, _, rfl⟩ := List.mem_map.1 hu
  rfl
theorem vl_inj : ∀ {xs ys : List Nat}, vl xs = vl ys → xs = ys
  | [], [], _ => rfl
  | [], y :: ys, h => by simp [vl] at h
  | x :: xs, [], h => by simp [vl] at h
  | x :: xs, y :: ys, h => by
    simp only [vl, List.map_cons, List.cons.injEq, Value.int.injEq, true_and] at h
    rw [Int.natCast_inj.1 h.1, vl_inj (xs := xs) (ys := ys) h.2]

/-- The slice at p of n bytes reads as xs. -/
structure Rb (w : World) (p : Option Addr) (n : Nat) (xs : List Nat) : Prop where
  len : xs.length = n
  byte : ∀ x ∈ xs, x < 256
  cell : ∀ j, j < n → ∃ b o, p = some ⟨b, o, none⟩ ∧ w.cell? ⟨b, o + j, none⟩ = some (.int .u8 ((xs.getD j 0 : Nat) : Int))
theorem Rb.pt {w : World} {p : Option Addr} {n : Nat} {xs : List Nat} (h : Rb w p n xs) (hn : 0 < n) : ∃ b o, p = some ⟨b, o, none⟩ ∧ ∀ j, j < n → w.cell? ⟨b, o + j, none⟩ = some (.int .u8 ((xs.getD j 0 : Nat) : Int)) := by
  obtain ⟨b, o, rfl, _⟩ := h.cell 0 hn
  refine ⟨b, o, rfl, fun j hj => ?_⟩
  obtain ⟨b', o', e, hc⟩ := h.cell j hj
  simp only [Option.some.injEq, Addr.mk.injEq, and_true] at e
  obtain ⟨rfl, rfl⟩ := e
  exact hc
theorem Rb.keep {S : Nat → Prop} {w w' : World} {p : Option Addr} {n : Nat} {xs : List Nat} (h : Rb w p n xs) (k : Kp S w w') (hS : ∀ a, p = some a → a.block < w.heap.size → ¬ S a.block) : Rb w' p n xs :=
  ⟨h.len, h.byte, fun j hj => by
    obtain ⟨b, o, e, hc⟩ := h.cell j hj
    exact ⟨b, o, e, k.cellv hc (hS ⟨b, o, none⟩ e (show b < w.heap.size from World.block_lt_of_cell? w _ hc))⟩⟩
theorem Rb.keep0 {w w' : World} {p : Option Addr} {n : Nat} {xs : List Nat} (h : Rb w p n xs) (k : Kp (fun _ => False) w w') : Rb w' p n xs := h.keep k (fun _ _ _ => id)
theorem Rb.nil (w : World) (p : Option Addr) : Rb w p 0 [] := ⟨rfl, fun _ h => (by cases h), fun j hj => (by omega)⟩
theorem Rb.byteAt {w : World} {p : Option Addr} {n : Nat} {xs : List Nat} (h : Rb w p n xs) (j : Nat) : xs.getD j 0 < 256 := by
  by_cases hj : j < xs.length
  · rw [List.getD_eq_getElem?_getD, List.getElem?_eq_getElem hj]; exact h.byte _ (List.getElem_mem hj)
  · rw [List.getD_eq_getElem?_getD, List.getElem?_eq_none (by omega)]; exact (by decide : (0 : Nat) < 256)
/-- a part of it -/
theorem Rb.part {w : World} {p : Option Addr} {n c : Nat} {xs : List Nat} (h : Rb w p n xs) (hc : n ≤ c) {l r : Nat} (hl : l ≤ r) (hr : r ≤ n) :
    Rb w (if c = l then p else p.map (·.add (l * 1))) (r - l) ((xs.take r).drop l) := by
  refine ⟨by rw [List.length_drop, List.length_take, h.len]; omega, fun x hx => h.byte x (List.mem_of_mem_take (List.mem_of_mem_drop hx)), fun j hj => ?_⟩
  obtain ⟨b, o, rfl, hb⟩ := h.pt (by omega)
  rw [if_neg (by omega)]
  refine ⟨b, o + l, by simp [Addr.add], ?_⟩
  rw [Nat.add_assoc, hb (l + j) (by omega)]
  congr 3
  rw [List.getD_eq_getElem?_getD, List.getD_eq_getElem?_getD, List.getElem?_drop, List.getElem?_take_of_lt (by omega)]

/-- v is bytes xs of one's own -/
abbrev Ow (w : World) (base : Nat) (v : Value) (xs : List Nat) : Prop := w.ownsRow base 5 1 v xs.length (vl xs)
theorem Ow.rb {w : World} {base : Nat} {v : Value} {xs : List Nat} (h : Ow w base v xs) (hx : ∀ x ∈ xs, x < 256) : ∃ p c, v = .slice p xs.length c ∧ xs.length ≤ c ∧ Rb w p xs.length xs ∧ ∀ a, p = some a → base ≤ a.block ∧ v.ownBlock = some a.block := by
  rcases h.2 with ⟨rfl, h0⟩ | ⟨g, cap, cur, rfl, hb, hh, hn, _, hcs, htk⟩
  · have : xs = [] := List.eq_nil_of_length_eq_zero h0
    subst this
    exact ⟨none, 0, rfl, Nat.le_refl _, Rb.nil _ _, fun a e => by cases e⟩
  · refine ⟨_, cap, rfl, hn, ⟨rfl, hx, fun j hj => ⟨g, 0, rfl, ?_⟩⟩, fun a e => by cases e; exact ⟨hb, rfl⟩⟩
    have h1 : (cur.toList.take (xs.length * 1))[j]? = some (.int .u8 ((xs.getD j 0 : Nat) : Int)) := by rw [htk]; exact vl_get hj
    rw [List.getElem?_take_of_lt (by omega), Array.getElem?_toList] at h1
    rw [Nat.zero_add]
    simp [World.cell?, hh, h1]
theorem Rb.src {w : World} {p : Option Addr} {n : Nat} {xs : List Nat} (h : Rb w p n xs) (c : Nat) : Src Tryd.prog 1 22 (.slice p n c) n (vl xs) w := by
  have hl := h.len
  cases p with
  | none =>
    have h0 : n = 0 := by
      rcases Nat.eq_zero_or_pos n with h0 | h0
      · exact h0
      · obtain ⟨b, o, e, _⟩ := h.pt h0; cases e
    subst h0
    have : xs = [] := List.eq_nil_of_length_eq_zero hl
    subst this
    exact Src.ofNil w Tryd.underlying22 c
  | some a =>
    refine Src.ofSlice w Tryd.underlying22 a n c (vl xs) (by rw [vl_length]; omega) (fun j u hj => ?_) (vl_one xs)
    have hj' : j < xs.length := by
      have := (List.getElem?_eq_some_iff.1 hj).1
      rwa [vl_length] at this
    obtain ⟨b, o, e, hb⟩ := h.pt (by omega)
    simp only [Option.some.injEq] at e
    subst e
    rw [vl_get hj'] at hj
    rw [← Option.some.inj hj, show (⟨b, o, none⟩ : Addr).add j = ⟨b, o + j, none⟩ from by simp [Addr.add]]
    exact hb j (by omega)


/-- append of bytes onto bytes of one's own, for the walk -/
theorem wpList_append_bytes {ops : Array Oper} {rest : List Oper} {o : Oper} {a : Act} {Q : Exit → Act → World → Prop} (w : World) (hgd : o.guard = none) (s y : Operand)
    (ho : o.op = .call { callee := .builtin .append, args := #[s, y], argTypes := #[22, 22] })
    (base : Nat) (v : Value) (xs : List Nat) (hs : a.eval s = v) (hown : Ow w base v xs)
    (p : Option Addr) (m c : Nat) (ys : List Nat) (hx : a.eval y = .slice p m c) (hr : Rb w p m ys)
    (hlen : xs.length + m ≤ 140737488355328) (hbase : base ≤ w.heap.size)
    (h : ∀ v' w', Ow w' base v' (xs ++ ys) → Kp (fun b => v.ownBlock = some b) w w' → (v'.ownBlock = v.ownBlock ∨ v'.ownBlock = some w.heap.size) → wpList Tryd.prog ops Q rest (a.put o.dst v') w') :
    wpList Tryd.prog ops Q (o :: rest) a w := by
  obtain ⟨ti, hi0, hz0, hz1, hz2⟩ := info_parts info5
  refine wpList_append_own_src w hgd s y 22 22 ho base 5 ti (.int .u8 0) 1 1 Tryd.underlying22 hi0 hz0 hz1 hz2 rfl (by decide) v xs.length (vl xs) hs hown _ m (vl ys) hx (hr.src c) (by unfold maxLen; omega) (by omega) hbase ?_
  intro v' w' h1 h2 h3
  refine h v' w' ?_ (grownBy_kp h2) h3
  have e : (xs ++ ys).length = xs.length + m := by rw [List.length_append, hr.len]
  unfold Ow
  rw [e, vl_append]
  exact h1

/-- .. at a step of a region that draws its order -/
theorem step_append_bytes {ops : Array Oper} {o : Oper} {a : Act} {K : Act → World → Prop} {Q : Exit → Act → World → Prop} {E : Prop} (w : World) (hgd : o.guard = none) (s y : Operand)
    (ho : o.op = .call { callee := .builtin .append, args := #[s, y], argTypes := #[22, 22] })
    (base : Nat) (v : Value) (xs : List Nat) (hs : a.eval s = v) (hown : Ow w base v xs)
    (p : Option Addr) (m c : Nat) (ys : List Nat) (hx : a.eval y = .slice p m c) (hr : Rb w p m ys)
    (hlen : xs.length + m ≤ 140737488355328) (hbase : base ≤ w.heap.size)
    (h : ∀ v' w', Ow w' base v' (xs ++ ys) → Kp (fun b => v.ownBlock = some b) w w' → (v'.ownBlock = v.ownBlock ∨ v'.ownBlock = some w.heap.size) → K (a.put o.dst v') w') :
    if Region.wanted o (yielded ops a.tmps) = true then Oper.wp Tryd.prog o a w K Q else E := by
  have hw : Region.wanted o (yielded ops a.tmps) = true := by simp [Region.wanted, hgd]
  rw [if_pos hw]
  obtain ⟨ti, hi0, hz0, hz1, hz2⟩ := info_parts info5
  obtain ⟨v', w', hrun, h2, h3, h4⟩ := run_append_own_src (P := Tryd.prog) w base 22 22 o.type 5 ti (.int .u8 0) 1 1 Tryd.underlying22 hi0 hz0 hz1 hz2 rfl (by decide) v xs.length (vl xs) hown _ m (vl ys) (hr.src c) (by unfold maxLen; omega) (by omega) hbase
  unfold Oper.wp execOp
  simp only [ho, resolve, invoke, builtin, Sem.run_bind, Sem.run_pure, Result.andThen_ok, List.map_toArray, List.map_cons, List.map_nil, hs, hx, hrun]
  refine h v' w' ?_ (grownBy_kp h3) h4
  have e : (xs ++ ys).length = xs.length + m := by rw [List.length_append, hr.len]
  unfold Ow
  rw [e, vl_append]
  exact h2

/-- .. onto what the call itself made, which began in w0 -/
theorem step_append_bytes0 {ops : Array Oper} {o : Oper} {a : Act} {K : Act → World → Prop} {Q : Exit → Act → World → Prop} {E : Prop} (w0 w : World) (k0 : Kp (fun _ => False) w0 w) (hgd : o.guard = none) (s y : Operand)
    (ho : o.op = .call { callee := .builtin .append, args := #[s, y], argTypes := #[22, 22] })
    (g c0 : Nat) (xs : List Nat) (hs : a.eval s = .slice (some ⟨g, 0, none⟩) xs.length c0) (hown : Ow w w0.heap.size (.slice (some ⟨g, 0, none⟩) xs.length c0) xs)
    (p : Option Addr) (m c : Nat) (ys : List Nat) (hx : a.eval y = .slice p m c) (hr : Rb w p m ys)
    (hlen : xs.length + m ≤ 140737488355328)
    (h : ∀ v' w', Ow w' w0.heap.size v' (xs ++ ys) → Kp (fun _ => False) w0 w' → Kp (fun b => b = g) w w' → (∀ b, v'.ownBlock = some b → b = g ∨ b = w.heap.size) → K (a.put o.dst v') w') :
    if Region.wanted o (yielded ops a.tmps) = true then Oper.wp Tryd.prog o a w K Q else E :=
  step_append_bytes w hgd s y ho w0.heap.size _ xs hs hown p m c ys hx hr hlen k0.size (fun v' w' h1 h2 h3 => h v' w' h1 (Kp.app k0 hown h2) (h2.mono (fun b _ e => (Option.some.inj (show some g = some b from e)).symm)) (fun b hb => by
    rcases h3 with h3 | h3
    · exact Or.inl (Option.some.inj (show some b = some g from hb.symm.trans h3))
    · exact Or.inr (Option.some.inj (hb.symm.trans h3))))

set_option maxRecDepth 100000 in
theorem bytes_not_nil (p : Addr) (n c : Nat) (w : World) : (binOp .eql 22 (.slice (some p) n c) (.slice none 0 0)).run Tryd.prog w = .ok (.bool false) w := by rfl
set_option maxRecDepth 100000 in
theorem bytes_nil (n c : Nat) (w : World) : (binOp .eql 22 (.slice none n c) (.slice none 0 0)).run Tryd.prog w = .ok (.bool true) w := by rfl
theorem empty_own (w : World) : Ow (w.alloc (.cells #[] 5)) w.heap.size (.slice (some ⟨w.heap.size, 0, none⟩) 0 0) [] :=
  World.ownsRow_made w #[] 0 (Nat.le_refl _) (by unfold maxLen; omega) rfl

set_option maxRecDepth 100000 in
set_option maxHeartbeats 800000 in
theorem clone_any (p : Option Addr) (n c : Nat) (xs : List Nat) (w : World) (h : Rb w p n xs) (hn : Hid (n ≤ 140737488355328)) :
    Calls Tryd.prog 17 #[.slice p n c] w fun e w' => ∃ v, e = .returned v ∧ Kp (fun _ => False) w w' ∧ Ow w' w.heap.size v xs := by
  cases p with
  | none =>
    have h0 : n = 0 := by
      rcases Nat.eq_zero_or_pos n with h0 | h0
      · exact h0
      · obtain ⟨b, o, e, _⟩ := h.pt h0; cases e
    subst h0
    have : xs = [] := List.eq_nil_of_length_eq_zero h.len
    subst this
    clear h
    have hnn := bytes_nil 0 c
    go_enter Tryd.func17, Tryd.ntmps17
    go_wp2
    go_ret
    exact ⟨_, rfl, Kp.refl _ _, World.ownsRow_nil _ _ _ _⟩
  | some a =>
    have hnn := bytes_not_nil a n c
    have hr := h.keep0 ((Kp.refl (fun _ => False) w).alloc (.cells #[] 5))
    go_enter Tryd.func17, Tryd.ntmps17
    go_wp2_with (at_builtin; go_must (refine wpList_append_bytes _ rfl _ _ rfl w.heap.size _ [] rfl (empty_own w) (some a) n c xs rfl hr (by have := hn.out; simp only [List.length_nil]; omega) (by simp) ?_); intro v' w3 hown' hk3 hblk3)
    go_ret
    refine ⟨_, rfl, Kp.trans ((Kp.refl _ _).alloc _) hk3 (fun b hb e => ?_), by simpa using hown'⟩
    have e' : some w.heap.size = some b := e
    have := Option.some.inj e'
    omega

/-- the text of bytes -/
def str (xs : List Nat) : ByteArray := strOfNums (xs.map fun x => ((x : Nat) : Int))
theorem convert_bytes (p : Option Addr) (n c : Nat) (xs : List Nat) (w : World) (h : Rb w p n xs) :
    (convert 22 9 (.slice p n c)).run Tryd.prog w = .ok (.string (str xs)) w := by
  have hl := h.len
  rcases Nat.eq_zero_or_pos n with hn | hn
  · subst hn
    have : xs = [] := List.eq_nil_of_length_eq_zero hl
    subst this
    rw [run_convert_bytes_string w 22 9 5 _ 0 c Tryd.underlying22 Tryd.underlying5 Tryd.underlying9]
    cases p <;> simp [Conv.bytesToString, loadCells]
    all_goals rfl
  · obtain ⟨b, o, rfl, hb⟩ := h.pt hn
    exact run_convert_bytes_arg (P := Tryd.prog) w 22 5 Tryd.underlying22 Tryd.underlying5 b o n c (xs.map fun x => ((x : Nat) : Int)) (by rw [List.length_map, hl]) (fun i hi => by
      rw [hb i hi]
      congr 2
      rw [List.getD_eq_getElem?_getD, List.getD_eq_getElem?_getD, List.getElem?_map, List.getElem?_eq_getElem (by omega)]; rfl) 9 Tryd.underlying9
end Bl
end Go.Proofs.YtmncocmeafcpfaaDoor.Mf
