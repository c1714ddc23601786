/- Texts of this proof, joined: MfR6, MfR7, MfL, MfFr. -/
import Derived.Test.YtmncocmeafcpfaaDoorMgAJ
import Derived.Test.YtmncocmeafcpfaaDoorMgAH
import Derived.Deep.Slices
import Derived.Below
import Derived.Deep.AppendLies
import Derived.Deep.RegionHeldLaw
import Derived.Deep.DrawnRows
import Derived.RegionTactic
import Derived.BigRegion
import Derived.Test.YtmncocmeafcpfaaDoorMgAC
import Derived.Test.YtmncocmeafcpfaaDoorRows
import Derived.ProofKit
import Derived.LaidMore
import Derived.OpenShut
import Derived.Stop.Joined
import Derived.ShutString
import Derived.ChangeOld
/- The walks of the reference's Can and Encode. -/
namespace Go.Proofs.YtmncocmeafcpfaaDoor.Mf
open Go.RowKit Go.Deep

set_option maxRecDepth 100000 in
set_option maxHeartbeats 800000 in
theorem refCan_yes (K M : Int) (w : World) (h1 : 1 ≤ K) (h2 : 0 ≤ M) (h3 : M ≤ 255 - K) :
    Calls Tryd.prog 86 #[.agg #[.int .i64 K, .int .i64 M]] w fun e w' => e = .returned (.bool true) ∧ Kp (fun _ => False) w w' := by
  have d1 : decide (1 ≤ K) = true := by simp; omega
  have d2 : decide (0 ≤ M) = true := by simp; omega
  have d4 : decide (K ≤ 255) = true := by simp; omega
  have d3 : decide (M ≤ 255 - K) = true := by simp; omega
  go_enter Tryd.func86, Tryd.ntmps86
  go_wp2
  go_ret
  exact ⟨rfl, (Kp.refl _ _).alloc _⟩

set_option maxRecDepth 100000 in
set_option maxHeartbeats 800000 in
theorem refCan_no (K M : Int) (w : World) (h : ¬ (1 ≤ K ∧ 0 ≤ M ∧ M ≤ 255 - K)) :
    Calls Tryd.prog 86 #[.agg #[.int .i64 K, .int .i64 M]] w fun e w' => e = .returned (.bool false) ∧ Kp (fun _ => False) w w' := by
  by_cases h1 : 1 ≤ K
  · have d1 : decide (1 ≤ K) = true := by simp; omega
    by_cases h2 : 0 ≤ M
    · have d2 : decide (0 ≤ M) = true := by simp; omega
      by_cases h4 : K ≤ 255
      · have d4 : decide (K ≤ 255) = true := by simp; omega
        have h3 : ¬ M ≤ 255 - K := by omega
        have d3 : decide (M ≤ 255 - K) = false := by simp; omega
        clear h
        go_enter Tryd.func86, Tryd.ntmps86
        go_wp2
        go_ret
        exact ⟨rfl, (Kp.refl _ _).alloc _⟩
      · have d4 : decide (K ≤ 255) = false := by simp; omega
        clear h
        go_enter Tryd.func86, Tryd.ntmps86
        go_wp2
        go_ret
        exact ⟨rfl, (Kp.refl _ _).alloc _⟩
    · have d2 : decide (0 ≤ M) = false := by simp; omega
      clear h
      go_enter Tryd.func86, Tryd.ntmps86
      go_wp2
      go_ret
      exact ⟨rfl, (Kp.refl _ _).alloc _⟩
  · have d1 : decide (1 ≤ K) = false := by simp; omega
    clear h
    go_enter Tryd.func86, Tryd.ntmps86
    go_wp2
    go_ret
    exact ⟨rfl, (Kp.refl _ _).alloc _⟩

/-- rows that grow by append, under a top of their own -/
structure Ob (w wr : World) (t N : Nat) (L : Nat → Nat) (V : Nat → Value) (D : Nat → Nat → Nat) : Prop where
  kept : Kp (fun _ => False) w wr
  lo : w.heap.size ≤ t
  top : wr.rowIs t 22 N V
  own : ∀ r, r < N → wr.ownsRow (t + 1) 5 1 (V r) (L r) (vals (D r) (L r))
  apart : ∀ r q, r < N → q < N → r ≠ q → ∀ b, (V r).ownBlock = some b → (V q).ownBlock ≠ some b
theorem ownsRow_kp {S : Nat → Prop} {w w' : World} {base : Nat} {e : TypeId} {size : Nat} {v : Value} {n : Nat} {xs : List Value} (h : w.ownsRow base e size v n xs) (k : Kp S w w') (hS : ∀ b, v.ownBlock = some b → ¬ S b) : w'.ownsRow base e size v n xs := by
  obtain ⟨h1, h2⟩ := h
  refine ⟨h1, ?_⟩
  rcases h2 with h2 | ⟨g, cap, cur, hv, hg, hh, r⟩
  · exact Or.inl h2
  · exact Or.inr ⟨g, cap, cur, hv, hg, (k.block g (Array.getElem?_eq_some_iff.1 hh).1 (hS g (by rw [hv]; rfl))).trans hh, r⟩
theorem Ob.keep {w wr w2 : World} {t N : Nat} {L : Nat → Nat} {V : Nat → Value} {D : Nat → Nat → Nat} (h : Ob w wr t N L V D) (k : Kp (fun _ => False) wr w2) : Ob w w2 t N L V D :=
  ⟨h.kept.trans k (fun _ _ e => e), h.lo, k.row h.top id, fun r hr => ownsRow_keep (h.own r hr) k, h.apart⟩
theorem Ob.start (w wr : World) (N : Nat) (D : Nat → Nat → Nat) (k : Kp (fun _ => False) w wr) : Ob w (wr.alloc (.cells (madeCells #[.slice none 0 0] N) 22)) wr.heap.size N (fun _ => 0) (fun _ => .slice none 0 0) D :=
  ⟨k.alloc _, k.size, World.rowIs_made wr (.slice none 0 0) N 22, fun _ _ => World.ownsRow_nil _ _ _ _, fun _ _ _ _ _ b h => by simp [Value.ownBlock] at h⟩
theorem vals_add (f : Nat → Nat) (n : Nat) : vals f (n + 1) = vals f n ++ [.int .u8 ((f n : Nat) : Int)] := by
  unfold vals; rw [List.range_succ, List.map_append]; rfl
/-- one byte more at one row, and its header laid back -/
theorem Ob.step {w wr wq wn : World} {t N k : Nat} {L : Nat → Nat} {V : Nat → Value} {D : Nat → Nat → Nat} {v' : Value} (h : Ob w wr t N L V D) (hk : k < N) (kq : Kp (fun _ => False) wr wq) (hg : wq.grownBy wn (V k).ownBlock)
    (hown : wn.ownsRow (t + 1) 5 1 v' (L k + 1) (vals (D k) (L k) ++ [.int .u8 ((D k (L k) : Nat) : Int)])) (hat : ∀ b, v'.ownBlock = some b → (V k).ownBlock = some b ∨ wr.heap.size ≤ b) :
    Ob w (wn.setCell ⟨t, k, none⟩ v') t N (fun r => if r = k then L r + 1 else L r) (fun r => if r = k then v' else V r) D := by
  have hq := h.keep kq
  have hlt := hq.top.lt
  have hnt : ∀ r, r < N → (V r).ownBlock ≠ some t := fun r hr e => by have := ownBlock_lt (h.own r hr) e; omega
  have kg := grownBy_kp hg
  have k1 : Kp (fun _ => False) w wn := hq.kept.trans kg (fun b hb e => by have := ownBlock_lt (h.own k hk) e; have := h.lo; omega)
  have hblt : ∀ r, r < N → ∀ b, (V r).ownBlock = some b → b < wr.heap.size := fun r hr b e => (ownBlock_lt (h.own r hr) e).2
  refine ⟨k1.setCell (fun hb => by have := h.lo; simp only at hb; omega) _, h.lo, ((kg.row hq.top (hnt k hk)).set k v').congr (fun j _ => by split <;> rfl), fun r hr => ?_, fun r q hr hq' hne b hb => ?_⟩
  · by_cases e : r = k
    · subst e
      simp only [if_true]
      rw [vals_add]
      exact ownsRow_setCell_below hown (a := ⟨t, r, none⟩) (Nat.lt_succ_self _) v'
    · simp only [if_neg e]
      refine ownsRow_setCell_below ?_ (a := ⟨t, k, none⟩) (Nat.lt_succ_self _) v'
      exact ownsRow_kp (hq.own r hr) kg (fun b hb e2 => h.apart k r hk hr (Ne.symm e) b e2 hb)
  · by_cases e : r = k
    · subst e
      simp only [if_true] at hb
      rw [if_neg (Ne.symm hne)]
      intro e2
      rcases hat b hb with h1 | h1
      · exact h.apart r q hr hq' hne b h1 e2
      · have := hblt q hq' b e2; omega
    · rw [if_neg e] at hb
      by_cases e3 : q = k
      · subst e3
        simp only [if_true]
        intro e2
        rcases hat b e2 with h1 | h1
        · exact h.apart r q hr hq' hne b hb h1
        · have := hblt r hr b hb; omega
      · rw [if_neg e3]
        exact h.apart r q hr hq' hne b hb
theorem Ob.congrL {w wr : World} {t N : Nat} {L L' : Nat → Nat} {V : Nat → Value} {D : Nat → Nat → Nat} (h : Ob w wr t N L V D) (e : ∀ r, r < N → L r = L' r) : Ob w wr t N L' V D :=
  ⟨h.kept, h.lo, h.top, fun r hr => by rw [← e r hr]; exact h.own r hr, h.apart⟩
/-- a matrix whose rows have room for what they hold -/
def Mxc (w : World) (v : Value) (n m : Nat) (M : Nat → Nat → Nat) : Prop :=
  ∃ s : Sh, v = .slice s.g s.G s.cap ∧ Rd w s ∧ s.G = n ∧ (∀ r, r < n → s.L r = m) ∧ s.M = M ∧ ∀ r, r < n → s.L r ≤ s.C r
theorem Mxc.mx {w : World} {v : Value} {n m : Nat} {M : Nat → Nat → Nat} (h : Mxc w v n m M) : Mx w v n m M := by
  obtain ⟨s, h1, h2, h3, h4, h5, _⟩ := h
  exact ⟨s, h1, h2, h3, h4, h5⟩
theorem Ob.mxc {w wr : World} {t N n : Nat} {V : Nat → Value} {D : Nat → Nat → Nat} (h : Ob w wr t N (fun _ => n) V D) (hD : ∀ i j, D i j < 256) (cap : Nat) : Mxc wr (.slice (some ⟨t, 0, none⟩) N cap) N n D := by
  obtain ⟨F, hF⟩ := choose_lt (α := Option Addr × Nat × Nat) (n := N) (p := fun r x => V r = .slice x.1 n x.2.1 ∧ (0 < n → x.1 = some ⟨x.2.2, 0, none⟩ ∧ n ≤ x.2.1 ∧ RowB wr x.2.2 x.2.1 n (D r))) (fun r hr => by
    obtain ⟨p, c, b, e1, e2⟩ := own_row (h.own r hr)
    exact ⟨(p, c, b), e1, fun hn => ⟨(e2 hn).1, (e2 hn).2.2.1, (e2 hn).2.2.2⟩⟩)
  exact ⟨⟨some ⟨t, 0, none⟩, N, cap, t, 0, fun r => (F r).1, fun _ => n, fun r => (F r).2.1, fun r => (F r).2.2, fun _ => 0, D⟩, rfl,
    ⟨fun _ => rfl, fun r hr => by have := h.top.cell hr; rw [(hF r hr).1] at this; simpa using this, fun r hr c hc => ((hF r hr).2 (by simp only at hc; omega)).1, fun r hr c hc => by have := ((hF r hr).2 (by simp only at hc; omega)).2.2.cell hc; simpa using this, hD⟩, rfl, fun _ _ => rfl, rfl, fun r hr => by
      rcases Nat.eq_zero_or_pos n with h0 | h0
      · simp only [h0]; omega
      · exact ((hF r hr).2 h0).2.1⟩
theorem Ob.mx {w wr : World} {t N n : Nat} {V : Nat → Value} {D : Nat → Nat → Nat} (h : Ob w wr t N (fun _ => n) V D) (hD : ∀ i j, D i j < 256) (cap : Nat) : Mx wr (.slice (some ⟨t, 0, none⟩) N cap) N n D := by
  obtain ⟨F, hF⟩ := choose_lt (α := Option Addr × Nat × Nat) (n := N) (p := fun r x => V r = .slice x.1 n x.2.1 ∧ (0 < n → x.1 = some ⟨x.2.2, 0, none⟩ ∧ RowB wr x.2.2 x.2.1 n (D r))) (fun r hr => by
    obtain ⟨p, c, b, e1, e2⟩ := own_row (h.own r hr)
    exact ⟨(p, c, b), e1, fun hn => ⟨(e2 hn).1, (e2 hn).2.2.2⟩⟩)
  exact ⟨⟨some ⟨t, 0, none⟩, N, cap, t, 0, fun r => (F r).1, fun _ => n, fun r => (F r).2.1, fun r => (F r).2.2, fun _ => 0, D⟩, rfl,
    ⟨fun _ => rfl, fun r hr => by have := h.top.cell hr; rw [(hF r hr).1] at this; simpa using this, fun r hr c hc => ((hF r hr).2 (by simp only at hc; omega)).1, fun r hr c hc => by have := ((hF r hr).2 (by simp only at hc; omega)).2.cell hc; simpa using this, hD⟩, rfl, fun _ _ => rfl, rfl⟩

theorem refMulX (a b : Value) (n m k : Nat) (A Bm : Nat → Nat → Nat) (w : World) (ha : Mx w a n m A) (hb : Mx w b m k Bm) (n1 : 1 ≤ n) (n2 : n ≤ 255) (m1 : 1 ≤ m) (m2 : m ≤ 255) (k1 : 1 ≤ k) (k2 : k ≤ 255) :
    Calls Tryd.prog 88 #[a, b] w fun e w' => ∃ t cap B, e = .returned (.tuple #[.slice (some ⟨t, 0, none⟩) n cap, .int .i64 0]) ∧ Kp (fun _ => False) w w' ∧ w.heap.size ≤ t ∧ (∀ i, i < n → w.heap.size ≤ B i) ∧ Mt w' t B n k (fun i j => prodTo A Bm m i j) := by
  obtain ⟨s, rfl, hs, rfl, hsL, rfl⟩ := ha
  obtain ⟨t, rfl, ht, rfl, htL, rfl⟩ := hb
  refine (refMul_ok s t w hs ht (isM_of rfl hsL n1 n2 m1 m2) (isM_of rfl htL m1 m2 k1 k2) (hsL 0 (by omega))).mono ?_
  rintro e w' ⟨v, B, rfl, hG⟩
  rw [htL 0 (by omega)] at hG
  obtain ⟨t', cap, rfl, hlo, hMt⟩ := hG.mt (by omega) (fun i j => prodTo_lt _ _ _ _ _)
  exact ⟨t', cap, B, rfl, hG.kept, hlo, hG.lo, hMt⟩

theorem cell_one_new2 (w : World) (o : Obj) (v : Value) (t : TypeId) (H : Nat) (hH : (w.alloc o).heap.size = H) : ∀ j u, [v][j]? = some u → ((w.alloc o).alloc (.cells #[v] t)).cell? ((⟨H, 0, none⟩ : Addr).add j) = some u := by
  subst hH; exact cell_one_new _ _ _
theorem row_one_new (w : World) (f : Nat → Nat) : (w.alloc (.cells #[.int .u8 ((f 0 : Nat) : Int)] 5)).rowIs w.heap.size 5 1 (By f) :=
  ⟨_, blk_alloc_new _ _, rfl, fun i hi => by
    obtain rfl : i = 0 := by omega
    rfl⟩

attribute [local go_sem ↓] Go.wp_at_zero Go.wp_at_succ

set_option maxRecDepth 100000 in
set_option maxHeartbeats 3200000 in
theorem refEncode_yesC (K M n : Nat) (s : Sh) (w : World) (hs : Rd w s) (hG : s.G = K) (hL : ∀ r, r < K → s.L r = n) (h1 : 1 ≤ (K : Int)) (h3 : (M : Int) ≤ 255 - (K : Int)) (hn : (n : Int) ≤ 1000000) (hn1 : 1 ≤ (n : Int)) :
    Calls Tryd.prog 46 #[.agg #[.int .i64 K, .int .i64 M], .slice s.g K s.cap] w fun e w' =>
      ∃ v, e = .returned (.tuple #[v, .int .i64 0]) ∧ Kp (fun _ => False) w w' ∧ Mxc w' v (K + M) n (enc K s.M) := by
  subst hG
  obtain ⟨N, hN⟩ : ∃ N, N = s.G + M := ⟨_, rfl⟩
  rw [← hN]
  have HG1 := hs.at0 (by omega)
  rw [HG1]
  obtain ⟨wa, hwa⟩ : ∃ x, x = w.alloc (.cells #[.int .i64 (s.G : Int), .int .i64 (M : Int)] 26) := ⟨_, rfl⟩
  have q1 : wa.cell? ⟨w.heap.size, 0, none⟩ = some (.int .i64 (s.G : Int)) := by rw [hwa]; go_simp
  have q2 : wa.cell? ⟨w.heap.size, 1, none⟩ = some (.int .i64 (M : Int)) := by rw [hwa]; go_simp
  have k0 : Kp (fun _ => False) w wa := by rw [hwa]; exact (Kp.refl _ _).alloc _
  have HC : Hid (Calls _ _ _ wa _) := refCan_yes s.G M wa h1 (by omega) h3
  have HL : Hid (∀ r, r < s.G → s.L r = n) := hL
  have hnn : ((s.G : Int) != (s.G : Int)) = false := bne_self_eq_false _
  have hln : ((n : Int) != (n : Int)) = false := bne_self_eq_false _
  have hn0 : ((n : Int) == 0) = false := by simp; omega
  have Hh : Hid (∀ r, r < s.G → w.cell? ⟨s.gb, s.go + r, none⟩ = some (.slice (some ⟨s.RB r, s.RO r, none⟩) n (s.C r))) := fun r hr => by
    have := hs.hd r hr
    rw [hL r hr, hs.to r hr 0 (by rw [hL r hr]; omega)] at this
    exact this
  have c0 := k0.cellv (Hh.out 0 (by omega)) id
  simp only [Nat.add_zero] at c0
  clear hL HG1
  go_enter Tryd.func46, Tryd.ntmps46
  go_wp2_with fail
  rw [← hwa]
  refine HC.out.mono ?_
  rintro e w1 ⟨rfl, k1⟩
  have r1 := k1.cellv q1 id
  have r2 := k1.cellv q2 id
  have d0 := k1.cellv c0 id
  have kk := k0.trans k1 (fun _ _ e => e)
  clear HC q1 q2 k0 k1 hwa c0
  go_wp2_with fail
  go_loopg [37] s.G (fun gk i wr => ∃ k : Nat, k ≤ s.G ∧ gk = s.G - k ∧ i = .int .i64 k ∧ wr = w1)
  case atStart => exact ⟨0, Nat.zero_le _, rfl, rfl, rfl⟩
  case round =>
    obtain ⟨k, hk, rfl, rfl, hw⟩ := hrel
    obtain rfl := hw.symm
    by_cases hlt : (k : Int) < (s.G : Int)
    · have f := kk.cellv (Hh.out k (by omega)) id
      go_wp2
      go_roundg (s.G - (k + 1))
      case rel => exact ⟨k + 1, by omega, rfl, by go_num, rfl⟩
      case measure => omega
    · have HGe : Hid (Calls _ _ _ w1 _) := refGenerator_yes s.G M w1 h1 h3
      rw [← hN] at HGe
      have hN1 : 1 ≤ (N : Int) := by omega
      have hN2 : (N : Int) ≤ 255 := by omega
      have hNi : (s.G : Int) + (M : Int) = (N : Int) := by omega
      have hmk := run_make_row' (P := Tryd.prog) 27 22 (.slice none 0 0) 24 Tryd.underlying27 info42 rfl .i64 .i64 N (by omega) (by omega)
      clear hnn hn0 hln hN
      go_wp2_with fail
      refine HGe.out.mono ?_
      rintro e w2 ⟨vg, rfl, k2, hg2⟩
      have r1' := k2.cellv r1 id
      have r2' := k2.cellv r2 id
      have d0' := k2.cellv d0 id
      have kk2 := kk.trans k2 (fun _ _ e => e)
      have HO : Hid _ := Ob.start w2 w2 N (enc s.G s.M) (Kp.refl _ _)
      clear r1 r2 d0 HGe k2
      have d0 := ((Kp.refl (fun _ => False) w2).alloc (.cells (madeCells #[.slice none 0 0] N) 22)).cellv d0' id
      go_wp2
      clear hmk r1' r2' d0' d0
      go_loopg [64] n (fun gk i wr => ∃ (c : Nat) (V : Nat → Value), c ≤ n ∧ gk = n - c ∧ i = .int .i64 c ∧ Ob w2 wr w2.heap.size N (fun _ => c) V (enc s.G s.M))
      case atStart => exact ⟨0, _, Nat.zero_le _, rfl, rfl, HO.out⟩
      case round =>
        obtain ⟨c, V, hc, rfl, rfl, hOb⟩ := hrel
        obtain ⟨wr0, rfl⟩ : ∃ x, x = wr := ⟨_, rfl⟩
        clear HO
        by_cases hlc : (c : Int) < (n : Int)
        · go_wp2
          go_loopg [12, 69] s.G (fun gk v i wq => ∃ (r : Nat) (B : Nat → Nat), r ≤ s.G ∧ gk = s.G - r ∧ i = .int .i64 r ∧ Gath wr0 wq v 1 r B (fun r _ => s.M r c))
          case atStart => exact ⟨0, _, Nat.zero_le _, rfl, rfl, Gath.start wr0 _ _⟩
          case round =>
            obtain ⟨r, B, hr, rfl, rfl, hGa⟩ := hrel
            obtain ⟨wq0, rfl⟩ : ∃ x, x = wr := ⟨_, rfl⟩
            by_cases hlr : (r : Int) < (s.G : Int)
            · have f1 := hGa.kept.cellv (hOb.kept.cellv (kk2.cellv (Hh.out r (by omega)) id) id) id
              have f2 := hGa.kept.cellv (hOb.kept.cellv (kk2.cellv (hs.cell r (by omega) c (by rw [HL.out r (by omega)]; omega)) id) id) id
              have hrow := row_one_new wq0 (fun _ => s.M r c)
              have hsz := hGa.kept.size
              obtain ⟨ti, hi0, hz0, hz1, hz2⟩ := info_parts info42
              have HOw : Hid (wq0.ownsRow _ _ _ _ _ _) := hGa.own
              have HGa : Hid (Gath _ _ _ _ _ _ _) := hGa
              clear hGa
              go_wp2_with (at_builtin; go_must (refine wpList_append_own_at _ rfl _ _ 27 rfl wr0.heap.size 22 ti (.slice none 0 0) 1 24 Tryd.underlying27 hi0 hz0 hz1 hz2 rfl (by decide) _ _ _ rfl ((HOw.out.alloc _).alloc _) ⟨wq0.heap.size + 1, 0, none⟩ 1 1 [.slice (some ⟨wq0.heap.size, 0, none⟩) 1 1] rfl rfl (cell_one_new2 _ _ _ _ _ (by simp)) (fun x hx => by simp at hx; subst hx; rfl) (by unfold maxLen; omega) (by omega) (by simp; omega) ?_); intro v' w3 hown' hgrow3 hnil3 hblk3)
              go_roundg (s.G - (r + 1))
              case rel => exact ⟨r + 1, _, by omega, rfl, by go_num, HGa.out.step ((Kp.refl _ _).alloc _) hrow hown' hgrow3 hblk3⟩
              case measure => omega
            · have er : r = s.G := by omega
              subst er
              have hcol : Mx wq0 u12 s.G 1 (fun r _ => s.M r c) := by
                obtain ⟨tc, capc, rfl, _, hMt⟩ := hGa.mt (by omega) (fun i j => hs.byte i c)
                exact hMt.mx capc
              have HMu : Hid (Calls _ _ _ wq0 _) := refMulX vg u12 N s.G 1 _ _ wq0 ((hg2.keep hOb.kept).keep hGa.kept) hcol (by omega) (by omega) (by omega) (by omega) (by omega) (by omega)
              have kG := hGa.kept
              clear hcol hGa hlr hr
              go_wp2_with fail
              refine HMu.out.mono ?_
              rintro e w5 ⟨tp, capp, Bp, rfl, k5, hlo1, hlo2, hMt⟩
              have hO5 := (hOb.keep kG).keep k5
              have HEq : Hid (∀ i, i < N → prodTo (gen s.G) (fun r _ => s.M r c) s.G i 0 = enc s.G s.M i c) := fun i _ => rfl
              have HLt : Hid (∀ r, r < N → ∀ b, (V r).ownBlock = some b → b < wq0.heap.size) := fun r hr b e => by have := (ownBlock_lt (hOb.own r hr) e).2; have := kG.size; omega
              have hO5t : w2.heap.size < wq0.heap.size := by have := hOb.top.lt; have := kG.size; omega
              clear HMu
              go_wp2
              go_loopg [90] N (fun gk i wz => ∃ (k : Nat) (V' : Nat → Value), k ≤ N ∧ gk = N - k ∧ i = .int .i64 k ∧ Kp (fun b => b < wq0.heap.size) w5 wz ∧ Hid (∀ r, k ≤ r → r < N → V' r = V r) ∧ Ob w2 wz w2.heap.size N (fun r => if r < k then c + 1 else c) V' (enc s.G s.M))
              case atStart => exact ⟨0, V, Nat.zero_le _, rfl, rfl, Kp.refl _ _, fun _ _ _ => rfl, hO5.congrL (fun r _ => by rw [if_neg (by omega)])⟩
              case round =>
                obtain ⟨k, V', hk, rfl, rfl, kz, hVV, hOz⟩ := hrel
                obtain ⟨wz, rfl⟩ : ∃ x, x = wr := ⟨_, rfl⟩
                clear hO5 hOb
                by_cases hlk : (k : Int) < (N : Int)
                · have g1 := hOz.top.cell (i := k) (by omega)
                  have g2 := kz.cellv (hMt.top k (by omega)) (by simp only; omega)
                  have g3 := kz.cellv ((hMt.row k (by omega)).cell (i := 0) (by omega)) (by have := hlo2 k (by omega); simp only; omega)
                  simp only [By] at g3
                  rw [HEq.out k (by omega)] at g3
                  have g4 := hOz.top.frozen k
                  have HOk : Hid (wz.ownsRow (w2.heap.size + 1) 5 1 (V' k) c (vals (enc s.G s.M k) c)) := by
                    have := hOz.own k (by omega)
                    rw [if_neg (Nat.lt_irrefl _)] at this
                    exact this
                  have HVk : Hid (V' k = V k) := hVV.out k (Nat.le_refl _) (by omega)
                  have hzt := hOz.top.lt
                  obtain ⟨tb, hb0, hy0, hy1, hy2⟩ := info_parts info5
                  have HOz : Hid (Ob _ _ _ _ _ _ _) := hOz
                  have Hkz : Hid (Kp _ _ _) := kz
                  have Htp : Hid (wz.rowIs _ _ _ _) := hOz.top
                  have n1 : some w2.heap.size ≠ (V' k).ownBlock := fun e => by have := ownBlock_lt HOk.out e.symm; omega
                  have n2 : some tp ≠ (V' k).ownBlock := fun e => by have := HLt.out k (by omega) _ (by rw [← HVk.out]; exact e.symm); omega
                  have n3 : some (Bp k) ≠ (V' k).ownBlock := fun e => by have := HLt.out k (by omega) _ (by rw [← HVk.out]; exact e.symm); have := hlo2 k (by omega); omega
                  have l2 : tp < wz.heap.size := World.block_lt_of_cell? _ _ g2
                  have l3 : Bp k < wz.heap.size := World.block_lt_of_cell? _ _ g3
                  have HS : Hid (∀ o, (wz.alloc o).drew.cell? ⟨w2.heap.size, k, none⟩ = some (V' k) ∧ (wz.alloc o).drew.cell? ⟨tp, k, none⟩ = some (.slice (some ⟨Bp k, 0, none⟩) 1 1) ∧ (wz.alloc o).drew.cell? ⟨Bp k, 0, none⟩ = some (.int .u8 ((enc s.G s.M k c : Nat) : Int)) ∧ (wz.alloc o).drew.frozen? ⟨w2.heap.size, k, none⟩ = false) := fun o =>
                    have kx := ((Kp.refl (fun _ => False) wz).alloc o).drew
                    ⟨kx.cellv g1 id, kx.cellv g2 id, kx.cellv g3 id, (kx.row Htp.out id).frozen k⟩
                  have HS6 : Hid (∀ o w6, ((wz.alloc o).drew).grownBy w6 (V' k).ownBlock → w6.cell? ⟨w2.heap.size, k, none⟩ = some (V' k) ∧ w6.cell? ⟨tp, k, none⟩ = some (.slice (some ⟨Bp k, 0, none⟩) 1 1) ∧ w6.cell? ⟨Bp k, 0, none⟩ = some (.int .u8 ((enc s.G s.M k c : Nat) : Int)) ∧ w6.frozen? ⟨w2.heap.size, k, none⟩ = false) := fun o w6 hg =>
                    have kx := ((Kp.refl (fun _ => False) wz).alloc o).drew
                    have kg := grownBy_kp hg
                    have t6 := kg.row (kx.row Htp.out id) (fun e => n1 e.symm)
                    ⟨t6.cell (by omega), kg.cellv (kx.cellv g2 id) (fun e => n2 e.symm), kg.cellv (kx.cellv g3 id) (fun e => n3 e.symm), t6.frozen k⟩
                  have HStep : Hid (∀ o g6 cap6 w6, w6.ownsRow (w2.heap.size + 1) 5 1 (.slice (some ⟨g6, 0, none⟩) (c + 1) cap6) (c + 1) (vals (enc s.G s.M k) c ++ [.int .u8 ((enc s.G s.M k c : Nat) : Int)]) → ((wz.alloc o).drew).grownBy w6 (V' k).ownBlock → ((V' k).ownBlock = some g6 ∨ g6 = wz.heap.size + 1) →
                      Kp (fun b => b < wq0.heap.size) w5 (w6.setCell ⟨w2.heap.size, k, none⟩ (.slice (some ⟨g6, 0, none⟩) (c + 1) cap6)) ∧
                      Ob w2 (w6.setCell ⟨w2.heap.size, k, none⟩ (.slice (some ⟨g6, 0, none⟩) (c + 1) cap6)) w2.heap.size N (fun r => if r < k + 1 then c + 1 else c) (fun r => if r = k then .slice (some ⟨g6, 0, none⟩) (c + 1) cap6 else V' r) (enc s.G s.M)) := fun o g6 cap6 w6 ho hg ha => by
                    have kx := ((Kp.refl (fun _ => False) wz).alloc o).drew
                    have kg := grownBy_kp hg
                    refine ⟨?_, ?_⟩
                    · have k1 : Kp (fun b => b < wq0.heap.size) w5 w6 := (kz.trans kx (fun _ _ e => e.elim)).trans kg (fun b _ e => HLt.out k (by omega) b (by rw [← HVk.out]; exact e))
                      exact k1.setCell (fun _ => hO5t) _
                    · have hc1 : (if k < k then c + 1 else c) = c := if_neg (Nat.lt_irrefl _)
                      have := hOz.step (k := k) (v' := .slice (some ⟨g6, 0, none⟩) (c + 1) cap6) (by omega) kx hg (by simp only [hc1]; exact ho) (fun b hb => by
                        simp only [Value.ownBlock, Option.some.injEq] at hb
                        rcases ha with h | h
                        · exact Or.inl (by rw [h, hb])
                        · exact Or.inr (by omega))
                      exact this.congrL (fun r _ => by
                        by_cases e : r = k
                        · rw [if_pos e, if_neg (by omega), if_pos (by omega)]
                        · rw [if_neg e]
                          by_cases h : r < k
                          · rw [if_pos h, if_pos (by omega)]
                          · rw [if_neg h, if_neg (by omega)])
                  clear hOz kz hMt
                  go_wp2
                  go_region_law ((refine step_append_lies _ (by rfl) _ _ _ (by rfl) (w2.heap.size + 1) 5 tb (.int .u8 0) 1 1 Tryd.underlying22 hb0 hy0 hy1 hy2 rfl (by decide) (V' k) c (vals (enc s.G s.M k) c) (by rfl) (ownsRow_keep HOk.out ((Kp.refl _ _).alloc _).drew) ⟨wz.heap.size, 0, none⟩ 1 1 [.int .u8 ((enc s.G s.M k c : Nat) : Int)] (by rfl) rfl (cell_one_new _ _ _) (fun x hx => by simp at hx; subst hx; rfl) (by decide) (by unfold maxLen; omega) (by omega) (by simp; omega) (wz.heap.size + 1) (by simp) ?_; intro g6 cap6 w6 hown6 hgrow6 hat6 hlt6; obtain ⟨x1, x2, x3, x4⟩ := HS6.out _ _ hgrow6))
                  all_goals
                    obtain ⟨y1, y2⟩ := HStep.out _ _ _ _ hown6 hgrow6 hat6
                    clear hown6 hgrow6 hat6 x1 x2 x3 x4 HStep HS HS6 g1 g2 g3 g4
                    go_wp2
                    go_roundg (N - (k + 1))
                    case rel => exact ⟨k + 1, _, by omega, rfl, by go_num, y1, fun r h1 h2 => by rw [if_neg (by omega)]; exact hVV.out r (by omega) h2, y2⟩
                    case measure => omega
                · have ek : k = N := by omega
                  subst ek
                  go_wp2
                  go_roundg (n - (c + 1))
                  case rel => exact ⟨c + 1, _, by omega, rfl, by go_num, hOz.congrL (fun r hr => by rw [if_pos hr])⟩
                  case measure => omega
        · have ec : c = n := by omega
          subst ec
          go_wp2
          go_ret2
          exact ⟨_, rfl, kk2.trans hOb.kept (fun _ _ e => e), hOb.mxc (fun i j => enc_lt _ _ _ _) _⟩
theorem refEncode_yes (K M n : Nat) (s : Sh) (w : World) (hs : Rd w s) (hG : s.G = K) (hL : ∀ r, r < K → s.L r = n) (h1 : 1 ≤ (K : Int)) (h3 : (M : Int) ≤ 255 - (K : Int)) (hn : (n : Int) ≤ 1000000) (hn1 : 1 ≤ (n : Int)) :
    Calls Tryd.prog 46 #[.agg #[.int .i64 K, .int .i64 M], .slice s.g K s.cap] w fun e w' =>
      ∃ v, e = .returned (.tuple #[v, .int .i64 0]) ∧ Kp (fun _ => False) w w' ∧ Mx w' v (K + M) n (enc K s.M) :=
  (refEncode_yesC K M n s w hs hG hL h1 h3 hn hn1).mono fun _ _ ⟨v, he, hk, hm⟩ => ⟨v, he, hk, hm.mx⟩
end Go.Proofs.YtmncocmeafcpfaaDoor.Mf

/- The errors of both sides' Encode, of whatever comes in. -/
namespace Go.Proofs.YtmncocmeafcpfaaDoor.Mf
open Go.RowKit Go.Deep

/-- what Encode asks of its parameters -/
def Fit (K M : Int) (s : Sh) : Prop := (1 ≤ K ∧ 0 ≤ M ∧ M ≤ 255 - K) ∧ (s.G : Int) = K ∧ 1 ≤ s.L 0 ∧ ∀ r, r < s.G → s.L r = s.L 0

set_option maxRecDepth 100000 in
set_option maxHeartbeats 1600000 in
theorem refEncode_no (K M : Int) (s : Sh) (w : World) (hs : Rd w s) (hb : (s.G : Int) ≤ 1000000) (h : ¬ Fit K M s) :
    Calls Tryd.prog 46 #[.agg #[.int .i64 K, .int .i64 M], .slice s.g s.G s.cap] w fun e w' =>
      e = .returned (.tuple #[.slice none 0 0, .int .i64 1]) ∧ Kp (fun _ => False) w w' := by
  obtain ⟨wa, hwa⟩ : ∃ x, x = w.alloc (.cells #[.int .i64 K, .int .i64 M] 26) := ⟨_, rfl⟩
  have q1 : wa.cell? ⟨w.heap.size, 0, none⟩ = some (.int .i64 K) := by rw [hwa]; go_simp
  have k0 : Kp (fun _ => False) w wa := by rw [hwa]; exact (Kp.refl _ _).alloc _
  have HN : Hid (¬ Fit K M s) := h
  clear h
  by_cases hc : 1 ≤ K ∧ 0 ≤ M ∧ M ≤ 255 - K
  · have HC : Hid (Calls _ _ _ wa _) := refCan_yes K M wa hc.1 hc.2.1 hc.2.2
    by_cases hK : (s.G : Int) = K
    · have hnn : ((s.G : Int) != K) = false := by rw [hK]; exact bne_self_eq_false _
      have hG1 : 1 ≤ (s.G : Int) := by omega
      have HG1 := hs.at0 (by omega)
      rw [HG1]
      by_cases hz : s.L 0 = 0
      · have c0 := k0.cellv (hs.hd 0 (by omega)) id
        rw [hz] at c0
        simp only [Nat.add_zero] at c0
        have hd0 : (((0 : Nat) : Int) == 0) = true := rfl
        go_enter Tryd.func46, Tryd.ntmps46
        go_wp2_with fail
        rw [← hwa]
        refine HC.out.mono ?_
        rintro e w1 ⟨rfl, k1⟩
        have r1 := k1.cellv q1 id
        have d0 := k1.cellv c0 id
        have kk := k0.trans k1 (fun _ _ e => e)
        clear HC q1 k0 k1 hwa c0
        go_wp2
        go_ret2
        exact ⟨rfl, kk⟩
      · have hz1 : ((s.L 0 : Int) == 0) = false := by simp; omega
        have Hh : Hid (∀ r, r < s.G → w.cell? ⟨s.gb, s.go + r, none⟩ = some (.slice (s.A r) (s.L r) (s.C r))) := fun r hr => hs.hd r hr
        have HBd : Hid (¬ ∀ r, r < s.G → s.L r = s.L 0) := fun hh => HN.out ⟨hc, hK, by omega, hh⟩
        have c0 := k0.cellv (Hh.out 0 (by omega)) id
        simp only [Nat.add_zero] at c0
        clear HN
        go_enter Tryd.func46, Tryd.ntmps46
        go_wp2_with fail
        rw [← hwa]
        refine HC.out.mono ?_
        rintro e w1 ⟨rfl, k1⟩
        have r1 := k1.cellv q1 id
        have d0 := k1.cellv c0 id
        have kk := k0.trans k1 (fun _ _ e => e)
        clear HC q1 k0 k1 hwa c0
        go_wp2_with fail
        go_loopg [37] s.G (fun gk i wr => ∃ k : Nat, k ≤ s.G ∧ gk = s.G - k ∧ i = .int .i64 k ∧ Hid (∀ r, r < k → s.L r = s.L 0) ∧ wr = w1)
        case atStart => exact ⟨0, Nat.zero_le _, rfl, rfl, fun r hr => absurd hr (Nat.not_lt_zero _), rfl⟩
        case round =>
          obtain ⟨k, hk, rfl, rfl, hsame, hw⟩ := hrel
          obtain rfl := hw.symm
          by_cases hlt : (k : Int) < (s.G : Int)
          · have f := kk.cellv (Hh.out k (by omega)) id
            by_cases he : s.L k = s.L 0
            · have HE : Hid (s.L k = s.L 0) := he
              rw [he] at f
              have hne : ((s.L 0 : Int) != (s.L 0 : Int)) = false := bne_self_eq_false _
              clear he
              go_wp2
              go_roundg (s.G - (k + 1))
              case rel => exact ⟨k + 1, by omega, rfl, by go_num, fun r hr => by
                by_cases e : r = k
                · rw [e]; exact HE.out
                · exact hsame.out r (by omega), rfl⟩
              case measure => omega
            · have hne : ((s.L k : Int) != (s.L 0 : Int)) = true := bne_iff_ne.2 (by omega)
              go_wp2
              go_ret2
              exact ⟨rfl, kk⟩
          · exact absurd (fun r hr => hsame.out r (by omega)) HBd.out
    · have hnn : ((s.G : Int) != K) = true := bne_iff_ne.2 hK
      go_enter Tryd.func46, Tryd.ntmps46
      go_wp2_with fail
      rw [← hwa]
      refine HC.out.mono ?_
      rintro e w1 ⟨rfl, k1⟩
      have r1 := k1.cellv q1 id
      have kk := k0.trans k1 (fun _ _ e => e)
      clear HC q1 k0 k1 hwa
      go_wp2
      go_ret2
      exact ⟨rfl, kk⟩
  · have HC : Hid (Calls _ _ _ wa _) := refCan_no K M wa hc
    clear hc HN
    go_enter Tryd.func46, Tryd.ntmps46
    go_wp2_with fail
    rw [← hwa]
    refine HC.out.mono ?_
    rintro e w1 ⟨rfl, k1⟩
    have kk := k0.trans k1 (fun _ _ e => e)
    clear HC q1 k0 k1 hwa
    go_wp2
    go_ret2
    exact ⟨rfl, kk⟩

theorem fit_of {L : Nat → Nat} {K : Nat} (h0 : 0 < K) (h1 : (thereTo L K).length = K) (h2 : alikeTo L K K = true) : 1 ≤ L 0 ∧ ∀ r, r < K → L r = L 0 := by
  have hall : ∀ r, r < K → 0 < L r := fun r hr => by
    have : (List.range K).filter (fun r => decide (0 < L r)) = List.range K := by
      refine (List.filter_sublist (l := List.range K)).eq_of_length ?_
      have := h1
      unfold thereTo at this
      simpa using this
    have hm := List.filter_eq_self.1 this r (List.mem_range.2 hr)
    simpa using hm
  have hl0 : len0 L K = L 0 := by
    unfold len0
    rw [thereTo_all hall]
    have : (List.range K).headD 0 = 0 := by
      cases K with
      | zero => omega
      | succ k => rw [List.range_succ_eq_map]; rfl
    rw [this]
  refine ⟨hall 0 h0, fun r hr => ?_⟩
  have := (of_decide_eq_true h2) r hr
  rw [hl0] at this
  have := hall r hr
  omega

set_option maxRecDepth 100000 in
set_option maxHeartbeats 1600000 in
theorem encode_bad (K M : Int) (s : Sh) (w : World) (hs : Rd w s) (hw : 1 ≤ K → wrap64 (255 - K) = 255 - K) (h : ¬ Fit K M s) :
    Calls Tryd.prog 118 #[.agg #[.int .i64 K, .int .i64 M], .slice s.g s.G s.cap] w fun e w' =>
      e = .returned (.tuple #[.slice none 0 0, .int .i64 1]) ∧ Kp (fun _ => False) w w' := by
  by_cases hc : 1 ≤ K ∧ 0 ≤ M ∧ M ≤ 255 - K
  · by_cases hK : (s.G : Int) = K
    · subst hK
      obtain ⟨m, rfl⟩ : ∃ m : Nat, M = (m : Int) := ⟨M.toNat, by omega⟩
      refine encode_no s.G m s w hs rfl hc.1 hc.2.2 ?_
      by_cases e1 : (thereTo s.L s.G).length = s.G
      · right
        by_cases e2 : alikeTo s.L s.G s.G = true
        · exact absurd ⟨hc, rfl, (fit_of (by omega) e1 e2).1, (fit_of (by omega) e1 e2).2⟩ h
        · simpa using e2
      · exact Or.inl e1
    · obtain ⟨wa, hwa⟩ : ∃ x, x = w.alloc (.cells #[.int .i64 K, .int .i64 M] 26) := ⟨_, rfl⟩
      have q1 : wa.cell? ⟨w.heap.size, 0, none⟩ = some (.int .i64 K) := by rw [hwa]; go_simp
      have k0 : Kp (fun _ => False) w wa := by rw [hwa]; exact (Kp.refl _ _).alloc _
      have HC : Hid (Calls _ _ _ wa _) := can_yes K M wa hc.1 hc.2.1 hc.2.2
      have hnn : ((s.G : Int) != K) = true := bne_iff_ne.2 hK
      clear hw h hs
      go_enter Tryd.func118, Tryd.ntmps118
      go_wp2_with fail
      rw [← hwa]
      refine HC.out.mono ?_
      rintro e w1 ⟨rfl, k1⟩
      have r1 := k1.cellv q1 id
      have kk := k0.trans k1 (fun _ _ e => e)
      clear HC q1 k0 k1 hwa
      go_wp2
      go_ret2
      exact ⟨rfl, kk⟩
  · obtain ⟨wa, hwa⟩ : ∃ x, x = w.alloc (.cells #[.int .i64 K, .int .i64 M] 26) := ⟨_, rfl⟩
    have k0 : Kp (fun _ => False) w wa := by rw [hwa]; exact (Kp.refl _ _).alloc _
    have HC : Hid (Calls _ _ _ wa _) := can_no K M wa hw hc
    clear hc h hs hw
    go_enter Tryd.func118, Tryd.ntmps118
    go_wp2_with fail
    rw [← hwa]
    refine HC.out.mono ?_
    rintro e w1 ⟨rfl, k1⟩
    have kk := k0.trans k1 (fun _ _ e => e)
    clear HC k0 k1 hwa
    go_wp2
    go_ret2
    exact ⟨rfl, kk⟩
end Go.Proofs.YtmncocmeafcpfaaDoor.Mf

/- What the rows' listed table gives the walks: each cell of galois.powers; and a start that meets the rows' condition. -/
namespace Go.Proofs.YtmncocmeafcpfaaDoor.Mf
open Go.ChangeShapes Go.WideShapes Go.ChangeAt Go.WideMaps Go.WideElems Go.RowKit

abbrev laid1 : List (String × DataW Unit) := [("amphora/galois.powers", Rows.laid_amphora_galois_powers)]
theorem own : ownKnob Tryd.prog.godebug = none := by kernel_rfl
theorem gPows : Tryd.prog.globalNamed "amphora/galois.powers" = some 1 := by kernel_rfl
theorem tPows : (Tryd.prog.globals[1]?).map (·.type) = some 195 := by kernel_rfl
theorem pows_met (os : Os) (args : Array Value) : laidMetH Tryd.prog laid1 ((World.doorLaid Tryd.prog 400 os).forCall (fun _ _ => 0) ⟨#[], args, []⟩).memory :=
  laidMetH_of_parts3 (fuel := 8) (laidMet_of_run' 8 (by kernel_rfl) (by kernel_rfl)) (by kernel_rfl) (by kernel_rfl)

theorem byte_at {W : World} {cs : Array Value} {t : TypeId} {n fuel : Nat} {p : List MemPlace} (ht : Tryd.prog.underlying t = some (.array n 5)) (ds : List Nat)
    (hd : DataW.trod (fun _ : TypeId × Value => ()) Tryd.prog W 0 (fun _ => true) false fuel t cs.toList = some (.agg (ds.map fun z : Nat => .lit (.int .u8 (z : Int))), p)) (i : Nat) (hi : i < n) :
    cs[i]? = some (.int .u8 ((ds.getD i 0 : Nat) : Int)) := by
  obtain ⟨xs, m, rfl, hx, hlen, hn, hel⟩ := DataW.trod_array ht hd
  have c5 : Tryd.prog.cellsOf 5 = 1 := by kernel_rfl
  have h := hel i hi
  rw [c5, Nat.mul_one] at h
  have hxi : xs[i]? = some xs[i] := List.getElem?_eq_getElem (by omega)
  rw [hxi] at h
  obtain ⟨k, e1, e2, _⟩ := DataW.trod_int Tryd.underlying5 h
  simp only [Prod.mk.injEq, DataW.agg.injEq] at hx
  have hm := congrArg (fun l => l[i]?) hx.1
  simp only [List.getElem?_map, hxi, Option.map_some] at hm
  cases hz : ds[i]? with
  | none => rw [hz] at hm; simp at hm
  | some z =>
    rw [hz, Option.map_some, e2] at hm
    simp only [Option.some.injEq, DataW.lit.injEq, Lit.int.injEq] at hm
    have hk : k = (z : Int) := hm.2.symm
    have h0 : (List.take 1 (List.drop i cs.toList))[0]? = some (Value.int .u8 k) := by rw [e1]; rfl
    rw [List.getElem?_take_of_lt (by omega), List.getElem?_drop, Nat.add_zero, Array.getElem?_toList] at h0
    rw [h0, hk, List.getD_eq_getElem?_getD, hz]
    rfl

theorem pows_of {W : World} {cs : Array Value} {fuel : Nat} {p : List MemPlace} (hv : World.var? Tryd.prog W "amphora/galois.powers" = some cs)
    (hd : DataW.trod (fun _ : TypeId × Value => ()) Tryd.prog W 0 (fun _ => true) false fuel 195 cs.toList = some (Rows.laid_amphora_galois_powers, p)) : Pows W := by
  intro k hk
  have hb := byte_at (ds := [1, 2, 4, 8, 16, 32, 64, 128, 29, 58, 116, 232, 205, 135, 19]) Tryd.underlying195 hd k hk
  have hc := World.var?_cell gPows hv k
  rw [hc, hb]
  rfl

/-- what the rows that list the powers give the walks -/
theorem pows_of_laid {W : World} (h : laidMetH Tryd.prog laid1 W) : Pows W := by
  rw [MakeChecks.laidMetH_plain _ _ _ (by kernel_rfl)] at h
  obtain ⟨ps, ⟨g1, t1, cs1, f1, p1, q1, hg1, ht1, hv1, hd1, _, _⟩, _, _⟩ := h
  obtain rfl := Option.some.inj (gPows.symm.trans hg1)
  obtain rfl := Option.some.inj (tPows.symm.trans ht1)
  exact pows_of hv1 hd1
end Go.Proofs.YtmncocmeafcpfaaDoor.Mf

/- What the rows' frames share: how slices of integers come in, as values that the walks take. -/
namespace Go.Proofs.YtmncocmeafcpfaaDoor.Mf
open Go.ChangeShapes Go.WideShapes Go.ChangeAt Go.RowKit

theorem laidOut : laidOutB Tryd.prog = true := by kernel_rfl
theorem below_drewN (w : World) (n : Nat) : Below w.heap.size w (w.drewN n) := ⟨rfl, rfl, rfl, Nat.le_refl _, fun _ _ => rfl⟩

/-- a slice of integers that came in: nil, or a row of cells -/
def IsRow (k : IntKind) (w : World) (a : Option Addr) (len cap : Nat) (zs : List Int) : Prop :=
  (a = none ∧ len = 0 ∧ cap = 0 ∧ zs = []) ∨
  ∃ x, a = some x ∧ len ≤ cap ∧ cap ≤ maxLen ∧ zs.length = cap ∧ (∀ i, i < zs.length → w.cell? (x.add i) = some (.int k (zs.getD i 0))) ∧ ∀ n ∈ zs, (Lit.int k n).wf = true

/-- The value v reads as n whole numbers z. -/
def Ns (k : IntKind) (w : World) (v : Value) (n : Nat) (z : Nat → Int) : Prop :=
  ∃ pa ba oa ca, v = .slice pa n ca ∧ (∀ j, j < n → pa = some ⟨ba, oa, none⟩) ∧ (∀ j, j < n → w.cell? ⟨ba, oa + j, none⟩ = some (.int k (z j))) ∧ (∀ j, j < n → (Lit.int k (z j)).wf = true) ∧ n ≤ maxLen ∧ n ≤ ca

theorem ns_of_row {k : IntKind} {w : World} {a : Option Addr} {len cap : Nat} {zs : List Int} (h : IsRow k w a len cap zs) : Ns k w (.slice a len cap) len (fun j => zs.getD j 0) := by
  rcases h with ⟨rfl, rfl, rfl, rfl⟩ | ⟨x, rfl, hl, hm, hz, hcell, hwz⟩
  · exact ⟨none, 0, 0, 0, rfl, fun j hj => absurd hj (Nat.not_lt_zero _), fun j hj => absurd hj (Nat.not_lt_zero _), fun j hj => absurd hj (Nat.not_lt_zero _), Nat.zero_le _, Nat.zero_le _⟩
  · obtain ⟨b, off, spot⟩ := x
    by_cases h0 : len = 0
    · subst h0
      exact ⟨some ⟨b, off, spot⟩, 0, 0, cap, rfl, fun j hj => absurd hj (Nat.not_lt_zero _), fun j hj => absurd hj (Nat.not_lt_zero _), fun j hj => absurd hj (Nat.not_lt_zero _), Nat.zero_le _, Nat.zero_le _⟩
    · have hc := hcell 0 (by omega)
      have hspot : spot = none := by simpa [Addr.add] using World.cell?_spot hc
      subst hspot
      refine ⟨some ⟨b, off, none⟩, b, off, cap, rfl, fun _ _ => rfl, fun j hj => ?_, fun j hj => ?_, by omega, hl⟩
      · have := hcell j (by omega)
        rw [show (⟨b, off, none⟩ : Addr).add j = ⟨b, off + j, none⟩ from by by_cases e : j = 0 <;> simp [Addr.add, e]] at this
        exact this
      · have hj' : j < zs.length := by omega
        refine hwz _ ?_
        simp only [List.getD_eq_getElem?_getD, List.getElem?_eq_getElem hj', Option.getD_some]
        exact List.getElem_mem hj'

theorem row_of_trod {H : Type} {enc : TypeId × Value → H} {W : World} {t : TypeId} {a : Option Addr} {len cap : Nat} {d : DataW H} {p : List MemPlace} {e : TypeId} {k : IntKind}
    (ht : Tryd.prog.underlying t = some (.slice e)) (he : Tryd.prog.underlying e = some (.int k)) (hc : Tryd.prog.cellsOf e = 1)
    (h : DataW.Trod enc Tryd.prog W 0 (fun _ => true) true t (.slice a len cap) d p) : ∃ zs, IsRow k W a len cap zs := by
  obtain ⟨fuel, hf⟩ := h
  rcases open_ints ht he hc hf with ⟨hcs, _⟩ | ⟨x, l, c, zs, hcs, _, hl, hm, hz, _, hcell, hwz⟩
  · simp [Value.cells] at hcs
    obtain ⟨rfl, rfl, rfl⟩ := hcs
    exact ⟨[], .inl ⟨rfl, rfl, rfl, rfl⟩⟩
  · simp [Value.cells] at hcs
    obtain ⟨rfl, rfl, rfl⟩ := hcs
    exact ⟨zs, .inr ⟨_, rfl, hl, hm, by simpa using hz, hcell, hwz⟩⟩
end Go.Proofs.YtmncocmeafcpfaaDoor.Mf
