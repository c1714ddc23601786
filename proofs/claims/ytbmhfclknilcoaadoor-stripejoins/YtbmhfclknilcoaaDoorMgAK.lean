/- Texts of this proof, joined: S3, Kb2, Kz. -/
import Derived.Test.YtbmhfclknilcoaaDoorMgAJ
import Derived.Test.YtbmhfclknilcoaaDoorMgAF
import Derived.Deep.AppendSrc
import Derived.Maps.AppendAt
import Derived.Laws.BytesArg
import Derived.Laws.BytesString
import Derived.OwnWalk
/- The walks of slices.IndexFunc and ContainsFunc at Join's test, and of stripe.Join. -/
namespace Go.Proofs.YtbmhfclknilcoaaDoor
open Go.RowKit Go.Deep

/-- a text that is neither empty nor of n bytes -/
def oddLen (L n : Nat) : Bool := decide (L ≠ 0 ∧ L ≠ n)

set_option maxRecDepth 100000 in
set_option maxHeartbeats 800000 in
theorem joinTest_any (src : Option Addr) (L c lb n : Nat) (w : World) (hb : w.cell? ⟨lb, 0, none⟩ = some (.int .i64 (n : Int))) :
    Calls Tryd.prog 33 #[.slice src L c, .pointer (some ⟨lb, 0, none⟩)] w fun e w' => e = .returned (.bool (oddLen L n)) ∧ w' = w := by
  by_cases h0 : L = 0
  · have HO : Hid (oddLen L n = false) := decide_eq_false (by omega)
    have d0 : ((L : Int) != 0) = false := by rw [h0]; rfl
    clear h0
    go_enter Tryd.func33, Tryd.ntmps33
    go_wp2
    go_ret
    exact ⟨by rw [HO.out]; rfl, rfl⟩
  · have d0 : ((L : Int) != 0) = true := bne_iff_ne.2 (by omega)
    by_cases h1 : L = n
    · have HO : Hid (oddLen L n = false) := decide_eq_false (by omega)
      have d1 : ((L : Int) != (n : Int)) = false := by rw [h1]; exact bne_self_eq_false _
      clear h0 h1
      go_enter Tryd.func33, Tryd.ntmps33
      go_wp2
      go_ret
      exact ⟨by rw [HO.out]; rfl, rfl⟩
    · have HO : Hid (oddLen L n = true) := decide_eq_true ⟨h0, h1⟩
      have d1 : ((L : Int) != (n : Int)) = true := bne_iff_ne.2 (by omega)
      clear h0 h1
      go_enter Tryd.func33, Tryd.ntmps33
      go_wp2
      go_ret
      exact ⟨by rw [HO.out]; rfl, rfl⟩

set_option maxRecDepth 100000 in
set_option maxHeartbeats 1600000 in
theorem indexFunc_no (s : Sh) (lb n : Nat) (w : World) (hs : Rd w s) (h0 : 1 ≤ (s.G : Int)) (hG : (s.G : Int) ≤ 1000000000000) (hb : w.cell? ⟨lb, 0, none⟩ = some (.int .i64 (n : Int))) (hno : ∀ r, r < s.G → oddLen (s.L r) n = false) :
    Calls Tryd.prog 48 #[.slice s.g s.G s.cap, .func (.func 33) #[] #[.pointer (some ⟨lb, 0, none⟩)]] w fun e w' => e = .returned (.int .i64 (-1)) ∧ w' = w := by
  rw [hs.at0 (by omega)]
  have HN : Hid (∀ r, r < s.G → oddLen (s.L r) n = false) := hno
  clear hno
  go_enter Tryd.func48, Tryd.ntmps48
  go_wp2
  go_loopg [8] s.G (fun gk i wr => ∃ k : Nat, k ≤ s.G ∧ gk = s.G - k ∧ i = .int .i64 k ∧ wr = w)
  case atStart => exact ⟨0, Nat.zero_le _, rfl, rfl, rfl⟩
  case round =>
    obtain ⟨k, hk, rfl, rfl, rfl⟩ := hrel
    by_cases hlt : (k : Int) < (s.G : Int)
    · have c1 := hs.hd k (by omega)
      have HJ : Hid (∀ p c, Calls _ _ #[.slice p _ c, _] wr _) := fun p c => joinTest_any p (s.L k) c lb n wr hb
      rw [HN.out k (by omega)] at HJ
      go_wp2_with fail
      refine (HJ.out _ _).mono ?_
      rintro e w2 ⟨rfl, hw⟩
      obtain rfl := hw.symm
      go_wp2
      go_roundg (s.G - (k + 1))
      case rel => exact ⟨k + 1, by omega, rfl, by go_num, rfl⟩
      case measure => omega
    · go_wp2
      go_ret
      exact ⟨rfl, rfl⟩

set_option maxRecDepth 100000 in
set_option maxHeartbeats 800000 in
theorem containsFunc_no (s : Sh) (lb n : Nat) (w : World) (hs : Rd w s) (h0 : 1 ≤ (s.G : Int)) (hG : (s.G : Int) ≤ 1000000000000) (hb : w.cell? ⟨lb, 0, none⟩ = some (.int .i64 (n : Int))) (hno : ∀ r, r < s.G → oddLen (s.L r) n = false) :
    Calls Tryd.prog 32 #[.slice s.g s.G s.cap, .func (.func 33) #[] #[.pointer (some ⟨lb, 0, none⟩)]] w fun e w' => e = .returned (.bool false) ∧ w' = w := by
  have HI : Hid (Calls _ _ _ w _) := indexFunc_no s lb n w hs h0 hG hb hno
  clear hno hs
  go_enter Tryd.func32, Tryd.ntmps32
  go_wp2_with fail
  refine HI.out.mono ?_
  rintro e w2 ⟨rfl, hw⟩
  obtain rfl := hw.symm
  go_wp2
  go_ret
  exact ⟨rfl, rfl⟩

set_option maxRecDepth 100000 in
set_option maxHeartbeats 3200000 in
theorem join_yes (K M size : Nat) (s : Sh) (w : World) (hs : Rd w s) (hG : s.G = K + M) (h1 : 1 ≤ (K : Int)) (h3 : (M : Int) ≤ 255 - (K : Int)) (hsz : (size : Int) ≤ 400) (hno : ∀ r, r < K + M → oddLen (s.L r) (lenOf K size) = false)
    (hal : alikeTo s.L (K + M) (K + M) = true) (hen : K ≤ (thereTo s.L (K + M)).length) (hln : len0 s.L (K + M) = lenOf K size) (hp : Pows w) :
    Calls Tryd.prog 17 #[.agg #[.int .i64 K, .int .i64 M], .int .i64 size, .slice s.g (K + M) s.cap] w fun e w' => ∃ b W, e = .returned (.tuple #[.slice (some ⟨b, 0, none⟩) size size, .int .i64 0]) ∧ Kp (fun _ => False) w w' ∧
      El (fun r => gen K ((firstK s.L (K + M) K).getD r 0)) K K W ∧ w'.rowIs b 5 size (By (fun i => decM K s.M (firstK s.L (K + M) K) W (fun r => r) (seatK K i) (seatAt K i))) := by
  obtain ⟨wa, hwa, ka, za, q1, q2⟩ := code_alloc w K M
  have HC : Hid (Calls _ _ _ wa _) := length_yes K M size wa h1 h3 hsz
  obtain ⟨l1, l2⟩ := lenOf_bd (K := K) (size := size) (by omega) (by omega)
  have HSL : Hid (∀ i, i < size → seatAt K i < lenOf K size) := fun i hi => seatAt_lt (by omega) hi
  obtain ⟨N, hN⟩ : ∃ x, x = lenOf K size := ⟨_, rfl⟩
  rw [← hN] at HC l1 l2 HSL hno hln
  clear hN
  have dN : ((N : Int) == 0) = false := beq_eq_false_iff_ne.2 (by omega)
  have hneq' : (((K + M : Nat) : Int) != (K : Int) + (M : Int)) = false := by rw [show ((K + M : Nat) : Int) = (K : Int) + (M : Int) from by simp]; exact bne_self_eq_false _
  have hneq : ((K : Int) + (M : Int) != (K : Int) + (M : Int)) = false := bne_self_eq_false _
  have HNO : Hid (∀ r, r < K + M → oddLen (s.L r) N = false) := hno
  have HAL : Hid (alikeTo s.L (K + M) (K + M) = true ∧ K ≤ (thereTo s.L (K + M)).length ∧ len0 s.L (K + M) = N) := ⟨hal, hen, hln⟩
  have hmk := run_make_row' (P := Tryd.prog) 30 5 (.int .u8 0) 1 Tryd.underlying30 info5 rfl .i64 .i64 size (by omega) (by omega)
  clear hno hal hen hln
  go_enter Tryd.func17, Tryd.ntmps17
  go_wp2_with fail
  rw [← hwa]
  refine HC.out.mono ?_
  rintro e w1 ⟨rfl, k1⟩
  have r1 := k1.cellv q1 id
  have r2 := k1.cellv q2 id
  have kk := ka.trans k1 (fun _ _ e => e)
  obtain ⟨w2, hw2⟩ : ∃ x, x = w1.alloc (.cells #[.int .i64 (N : Int)] 3) := ⟨_, rfl⟩
  have k2 : Kp (fun _ => False) w1 w2 := by rw [hw2]; exact (Kp.refl _ _).alloc _
  have cN : w2.cell? ⟨w1.heap.size, 0, none⟩ = some (.int .i64 (N : Int)) := by rw [hw2]; go_simp
  have kk2 := kk.trans k2 (fun _ _ e => e)
  have HCf : Hid (Calls _ _ _ w2 _) := containsFunc_no s w1.heap.size N w2 (hs.keep kk2) (by omega) (by omega) cN (by rw [hG]; exact HNO.out)
  rw [hG] at HCf
  have hlw : w.heap.size ≠ w1.heap.size := by have := k1.size; omega
  have s1u := k2.cellv r1 id
  have s2u := k2.cellv r2 id
  rw [hw2] at s1u s2u
  clear hwa HC q1 q2
  go_wp2_with fail
  rw [← hw2]
  clear hw2 s1u s2u
  refine HCf.out.mono ?_
  rintro e w3 ⟨rfl, hw⟩
  obtain rfl := hw.symm
  clear HCf hneq hneq' dN
  have s1 := k2.cellv r1 id
  have s2 := k2.cellv r2 id
  have HDc : Hid (Calls _ _ _ w2 _) := decode_any K M s w2 (hs.keep kk2) hG h1 h3 (kk2.pows hp id) (by rw [HAL.out.2.2]; omega)
  go_wp2_with fail
  refine HDc.out.mono ?_
  rw [HAL.out.1]
  rintro e w4 ⟨k4, ⟨hal, rfl⟩ | ⟨_, hfew, rfl⟩ | ⟨_, _, t, B, W, rfl, _, _, hE, hMt⟩⟩
  · cases hal
  · have := HAL.out.2.1; omega
  · rw [HAL.out.2.2] at hMt
    have u1 := k4.cellv s1 id
    have u2 := k4.cellv s2 id
    have kk4 := kk2.trans k4 (fun _ _ e => e)
    have HE : Hid (El _ K K W) := hE
    obtain ⟨Z, hZ⟩ : ∃ x, x = decM K s.M (firstK s.L (K + M) K) W (fun r => r) := ⟨_, rfl⟩
    have HZ : Hid (decM K s.M (firstK s.L (K + M) K) W (fun r => r) = Z) := hZ.symm
    rw [← hZ] at hMt
    obtain ⟨w5, hw5⟩ : ∃ x, x = w4.alloc (.cells (madeCells #[.int .u8 0] size) 5) := ⟨_, rfl⟩
    have k5 : Kp (fun _ => False) w4 w5 := by rw [hw5]; exact (Kp.refl _ _).alloc _
    have r5 : w5.rowIs w4.heap.size 5 size (By (upTo (fun i => Z (seatK K i) (seatAt K i)) 0)) := by rw [hw5, upTo_zero]; exact World.rowIs_made w4 _ size 5
    have hMt5 := hMt.keep k5 id (fun _ _ => id)
    have htl := hMt.top.lt
    have hBl : Hid (∀ i, i < K + M → B i < w4.heap.size) := fun i hi => (hMt.row i hi).lt
    clear HDc hE hZ hMt HAL hs HNO
    go_wp2
    rw [← hw5]
    clear hw5 hmk
    go_loopg [46] size (fun gk i wr => ∃ r : Nat, r ≤ size ∧ gk = size - r ∧ i = .int .i64 r ∧ Kp (fun b => b = w4.heap.size) w5 wr ∧ wr.rowIs w4.heap.size 5 size (By (upTo (fun i => Z (seatK K i) (seatAt K i)) r)))
    case atStart => exact ⟨0, Nat.zero_le _, rfl, rfl, Kp.refl _ _, r5⟩
    case round =>
      obtain ⟨r, hr, rfl, rfl, hK, hT⟩ := hrel
      clear r5
      by_cases hlt : (r : Int) < (size : Int)
      · have c1 := hK.cellv (k5.cellv u1 id) (by have := World.block_lt_of_cell? _ _ u1; simp at this; show w.heap.size ≠ w4.heap.size; omega)
        have c2 := hK.cellv (k5.cellv u2 id) (by have := World.block_lt_of_cell? _ _ u1; simp at this; show w.heap.size ≠ w4.heap.size; omega)
        have HS : Hid (Calls _ _ _ wr _) := seat_any K M r wr (by omega) (by omega) (by omega)
        go_wp2_with fail
        refine HS.out.mono ?_
        rintro e w6 ⟨rfl, k6⟩
        clear HS
        have sK := seatK_lt (K := K) (by omega) r
        have sA := HSL.out r (by omega)
        have HR : Hid (∀ x, x = Z (seatK K r) (seatAt K r) → (w6.setCell ⟨w4.heap.size, r, none⟩ (.int .u8 ((x : Nat) : Int))).rowIs w4.heap.size 5 size (By (upTo (fun i => Z (seatK K i) (seatAt K i)) (r + 1)))) := fun x hx => ((k6.row hT id).set r _).congr (fun j _ => by
          simp only [By]
          rw [upTo_succ]
          split
          · rw [hx]
          · rfl)
        generalize seatK K r = SK at *
        generalize seatAt K r = SA at *
        have hM6 := (hMt5.keep hK (by omega) (fun i hi => by have := hBl.out i hi; omega)).keep k6 id (fun _ _ => id)
        have t1 := hM6.top.cell (i := SK) (by omega)
        have t2 := (hM6.row SK (by omega)).cell (i := SA) (by omega)
        have t3 := (k6.row hT id).cell (i := r) (by omega)
        have t4 := (k6.row hT id).frozen r
        simp only [By] at t2
        have t5 : (SK : Int) < (K : Int) + (M : Int) := by omega
        have t6 : (SA : Int) < (N : Int) := by omega
        have kr := hK.trans k6 (fun _ _ e => e.elim)
        clear hM6 hT c1 c2
        go_wp2
        go_roundg (size - (r + 1))
        case rel => exact ⟨r + 1, by omega, rfl, by go_num, kr.setCell (a := ⟨w4.heap.size, r, none⟩) (fun _ => rfl) _, HR.out _ rfl⟩
        case measure => omega
      · have e : r = size := by omega
        subst e
        have kf : Kp (fun _ => False) w wr := (kk4.trans k5 (fun _ _ e => e)).trans hK (fun b hb e => by have := kk4.size; omega)
        go_wp2
        go_ret2
        refine ⟨_, rfl, kf, W, HE.out, ?_⟩
        rw [HZ.out]
        exact hT.congr (fun j hj => by simp only [By, upTo]; rw [if_pos hj])
end Go.Proofs.YtbmhfclknilcoaaDoor

/- Bytes as lists, over the memory of Mem (laid by mk_kb2.py out of Kb.t). -/
namespace Go.Proofs.YtbmhfclknilcoaaDoor
namespace Bl
open Go.RowKit Go.Deep

theorem ownsRow_keep {S : Nat → Prop} {w w' : World} {base : Nat} {e : TypeId} {size : Nat} {v : Value} {n : Nat} {xs : List Value} (h : w.ownsRow base e size v n xs) (k : Kp S w w') (hS : ∀ g, v.ownBlock = some g → ¬ S g) : w'.ownsRow base e size v n xs := by
  obtain ⟨h1, h2⟩ := h
  refine ⟨h1, ?_⟩
  rcases h2 with h2 | ⟨g, cap, cur, rfl, hb, hh, hr⟩
  · exact Or.inl h2
  · refine Or.inr ⟨g, cap, cur, rfl, hb, ?_, hr⟩
    rw [k.block g (Array.getElem?_eq_some_iff.1 hh).1 (hS g rfl), hh]
theorem ownsRow_base {w : World} {base base' : Nat} {e : TypeId} {size : Nat} {v : Value} {n : Nat} {xs : List Value} (h : w.ownsRow base e size v n xs) (hb : base' ≤ base) : w.ownsRow base' e size v n xs := by
  obtain ⟨h1, h2⟩ := h
  refine ⟨h1, ?_⟩
  rcases h2 with h2 | ⟨g, cap, cur, rfl, hb', hr⟩
  · exact Or.inl h2
  · exact Or.inr ⟨g, cap, cur, rfl, Nat.le_trans hb hb', hr⟩

theorem Kp.app {w0 w w' : World} {e : TypeId} {size : Nat} {v : Value} {n : Nat} {xs : List Value} (k0 : Kp (fun _ => False) w0 w) (ho : w.ownsRow w0.heap.size e size v n xs) (k : Kp (fun b => v.ownBlock = some b) w w') : Kp (fun _ => False) w0 w' :=
  k0.trans k (fun b hb e => by have := (ownBlock_lt ho e).1; omega)

section
variable {P : Program} (w : World)
/-- append of whatever, onto a slice of one's own -/
theorem run_append_own_src (base : Nat) (t tx ty e : TypeId) (i : TypeInfo) (z : Value) (size bytes : Nat) (ht : P.underlying t = some (.slice e)) (hi : P.info? e = some i) (hz : i.zero = some z)
    (hsize : i.size = size) (hby : i.bytes = bytes) (hzs : z.cells.size = size) (hsz : 0 < size)
    (v : Value) (n : Nat) (xs : List Value) (hown : w.ownsRow base e size v n xs)
    (x : Value) (m : Nat) (news : List Value) (hs : Src P size tx x m news w)
    (h63 : n + m ≤ maxLen) (hbytes : (n + m) * bytes ≤ 140737488355328) (hbase : base ≤ w.heap.size) :
    ∃ v' w', (Builtin.append_ #[t, tx] ty #[v, x]).run P w = .ok v' w' ∧ w'.ownsRow base e size v' (n + m) (xs ++ news) ∧ w.grownBy w' v.ownBlock ∧ (v'.ownBlock = v.ownBlock ∨ v'.ownBlock = some w.heap.size) := by
  subst hsize
  subst hby
  have hl := hs.newsLen
  have h1 := hs.one
  have hsmall : n + m ≤ 9223372036854775807 := by simp only [maxLen] at h63; omega
  have hlen : (xs ++ news).length = (n + m) * i.size := by rw [List.length_append, hown.1, hl, Nat.add_mul]
  have grown : ∀ (old : Nat), old < n + m → ∀ (row : Option Nat),
      (w.drew.alloc (.cells ((xs ++ news).toArray ++ Builtin.zeroCells z.cells (grownCap w (n + m) old e - (n + m))) e)).ownsRow base e i.size
        (.slice (some ⟨w.heap.size, 0, none⟩) (n + m) (grownCap w (n + m) old e)) (n + m) (xs ++ news) ∧
      w.grownBy (w.drew.alloc (.cells ((xs ++ news).toArray ++ Builtin.zeroCells z.cells (grownCap w (n + m) old e - (n + m))) e)) row := by
    intro old ho row
    have hge := grownCap_ge w (n + m) old e
    have hcm : grownCap w (n + m) old e ≤ maxLen := grownCap_le_maxLen w (n + m) old e h63
    refine ⟨⟨hlen, .inr ⟨w.heap.size, _, _, rfl, hbase, heap_alloc_new w.drew _, hge, hcm, ?_, ?_⟩⟩, ⟨rfl, rfl, rfl, by simp, fun k hk _ => heap_alloc_old w.drew _ hk⟩⟩
    · simp only [Array.size_append, List.size_toArray, size_zeroCells, hzs, hlen, ← Nat.add_mul]
      congr 1
      omega
    · simp only [Array.toList_append]
      rw [← hlen]
      exact List.take_left
  rcases hown.2 with ⟨rfl, rfl⟩ | ⟨g, cap, cur, rfl, hbg, hg, hnc, hcm, hcs, htake⟩
  · have hx : xs = [] := List.eq_nil_of_length_eq_zero (by simpa using hown.1)
    subst hx
    by_cases hm : m = 0
    · subst hm
      have hn : news = [] := List.eq_nil_of_length_eq_zero (by simpa using hl)
      subst hn
      refine ⟨.slice none 0 0, w, ?_, World.ownsRow_nil w base e i.size, ⟨rfl, rfl, rfl, Nat.le_refl _, fun _ _ _ => rfl⟩, Or.inl rfl⟩
      rcases hs.kind with ⟨e', hk⟩ | hk <;> simp [Builtin.append_, run_underlying ht, run_underlying hk, sizeOf, typeInfo, hi, hs.len, hs.cells]
    · have hr := run_append_grow_src (P := P) w t tx ty e i z ht hi hz none 0 0 [] (run_firstCells_none w.drew i.size 0 0 0) x m news hs (by omega) (by omega) (growslice_fits (by omega) hbytes)
      have hgr := grown 0 (by omega) (Value.ownBlock (.slice none 0 0))
      exact ⟨_, _, hr, hgr.1, hgr.2, Or.inr rfl⟩
  · by_cases hroom : n + m ≤ cap
    · have hfit : n * i.size + news.length ≤ cur.size := by rw [hl, hcs, ← Nat.add_mul]; exact Nat.mul_le_mul_right _ hroom
      have hst := run_storeCells_at P g (n * i.size) e news 0 cur w hg (by simpa using hfit) h1
      simp only [Nat.add_zero] at hst
      have hr : (Builtin.append_ #[t, tx] ty #[.slice (some ⟨g, 0, none⟩) n cap, x]).run P w =
          .ok (.slice (some ⟨g, 0, none⟩) (n + m) cap) (w.setRow g (cur.toList.take (n * i.size) ++ news ++ cur.toList.drop (n * i.size + news.length)).toArray) := by
        rcases hs.kind with ⟨e', hk⟩ | hk <;> simp [Builtin.append_, run_underlying ht, run_underlying hk, sizeOf, typeInfo, hi, hs.len, hs.cells, hroom, Addr.add_lit, hst]
      refine ⟨_, _, hr, ⟨hlen, .inr ⟨g, cap, _, rfl, hbg, setRow_heap w g cur _ e _ hg, hroom, hcm, ?_, ?_⟩⟩, ⟨rfl, rfl, rfl, by simp, fun k _ hk => setRow_other w g k _ (fun e => hk (by simp [Value.ownBlock, e]))⟩, Or.inl rfl⟩
      · simp only [List.size_toArray, List.length_append, List.length_take, List.length_drop, Array.length_toList]
        omega
      · rw [htake, ← hlen]
        exact List.take_left
    · have holds : ∀ j u, xs[j]? = some u → w.drew.cell? ((⟨g, 0, none⟩ : Addr).add j) = some u := by simpa using hown.cells (g := g) rfl
      have hr := run_append_grow_src (P := P) w t tx ty e i z ht hi hz (some ⟨g, 0, none⟩) n cap xs (run_firstCells_some w.drew i.size n ⟨g, 0, none⟩ n cap xs hown.1 holds) x m news hs (by omega) (by omega) (growslice_fits (by omega) hbytes)
      have hgr := grown cap (by omega) (Value.ownBlock (.slice (some ⟨g, 0, none⟩) n cap))
      exact ⟨_, _, hr, hgr.1, hgr.2, Or.inr rfl⟩
theorem wpList_append_own_src {ops : Array Oper} {rest : List Oper} {o : Oper} {a : Act} {Q : Exit → Act → World → Prop} (hgd : o.guard = none) (s y : Operand) (t tx : TypeId)
    (ho : o.op = .call { callee := .builtin .append, args := #[s, y], argTypes := #[t, tx] })
    (base : Nat) (e : TypeId) (i : TypeInfo) (z : Value) (size bytes : Nat) (ht : P.underlying t = some (.slice e)) (hi : P.info? e = some i) (hz : i.zero = some z)
    (hsize : i.size = size) (hby : i.bytes = bytes) (hzs : z.cells.size = size) (hsz : 0 < size)
    (v : Value) (n : Nat) (xs : List Value) (hs : a.eval s = v) (hown : w.ownsRow base e size v n xs)
    (x : Value) (m : Nat) (news : List Value) (hx : a.eval y = x) (hsrc : Src P size tx x m news w)
    (h63 : n + m ≤ maxLen) (hbytes : (n + m) * bytes ≤ 140737488355328) (hbase : base ≤ w.heap.size)
    (h : ∀ v' w', w'.ownsRow base e size v' (n + m) (xs ++ news) → w.grownBy w' v.ownBlock → (v'.ownBlock = v.ownBlock ∨ v'.ownBlock = some w.heap.size) → wpList P ops Q rest (a.put o.dst v') w') :
    wpList P ops Q (o :: rest) a w := by
  refine wpList_plain hgd fun K hK => ?_
  obtain ⟨v', w', hr, h2, h3, h4⟩ := run_append_own_src (P := P) w base t tx o.type e i z size bytes ht hi hz hsize hby hzs hsz v n xs hown x m news hsrc h63 hbytes hbase
  unfold Oper.wp execOp
  simp only [ho, resolve, invoke, builtin, Sem.run_bind, Sem.run_pure, Result.andThen_ok, List.map_toArray, List.map_cons, List.map_nil, hs, hx, hr]
  exact hK _ _ (h v' w' h2 h3 h4)
end

/-- bytes, as cells -/
def vl (xs : List Nat) : List Value := xs.map fun x => Value.int .u8 ((x : Nat) : Int)
theorem vl_length (xs : List Nat) : (vl xs).length = xs.length := by simp [vl]
theorem vl_append (xs ys : List Nat) : vl (xs ++ ys) = vl xs ++ vl ys := by simp [vl]
theorem vl_get {xs : List Nat} {j : Nat} (hj : j < xs.length) : (vl xs)[j]? = some (.int .u8 ((xs.getD j 0 : Nat) : Int)) := by
  unfold vl
  rw [List.getElem?_map, List.getElem?_eq_getElem hj, Option.map_some, List.getD_eq_getElem?_getD, List.getElem?_eq_getElem hj]; rfl
theorem vl_one (xs : List Nat) : ∀ u ∈ vl xs, u.oneCell' = true := fun u hu => by
  obtain ⟨_, _, rfl⟩ := List.mem_map.1 hu
  rfl
theorem vl_inj : ∀ {xs ys : List Nat}, vl xs = vl ys → xs = ys
  | [], [], _ => rfl
  | [], y :: ys, h => by simp [vl] at h
  | x :: xs, [], h => by simp [vl] at h
  | x :: xs, y :: ys, h => by
    simp only [vl, List.map_cons, List.cons.injEq, Value.int.injEq, true_and] at h
    rw [Int.natCast_inj.1 h.1, vl_inj (xs := xs) (ys := ys) h.2]

/-- The slice at p of n bytes reads as xs. -/
structure Rb (w : World) (p : Option Addr) (n : Nat) (xs : List Nat) : Prop where
  len : xs.length = n
  byte : ∀ x ∈ xs, x < 256
  cell : ∀ j, j < n → ∃ b o, p = some ⟨b, o, none⟩ ∧ w.cell? ⟨b, o + j, none⟩ = some (.int .u8 ((xs.getD j 0 : Nat) : Int))
theorem Rb.pt {w : World} {p : Option Addr} {n : Nat} {xs : List Nat} (h : Rb w p n xs) (hn : 0 < n) : ∃ b o, p = some ⟨b, o, none⟩ ∧ ∀ j, j < n → w.cell? ⟨b, o + j, none⟩ = some (.int .u8 ((xs.getD j 0 : Nat) : Int)) := by
  obtain ⟨b, o, rfl, _⟩ := h.cell 0 hn
  refine ⟨b, o, rfl, fun j hj => ?_⟩
  obtain ⟨b', o', e, hc⟩ := h.cell j hj
  simp only [Option.some.injEq, Addr.mk.injEq, and_true] at e
  obtain ⟨rfl, rfl⟩ := e
  exact hc
theorem Rb.keep {S : Nat → Prop} {w w' : World} {p : Option Addr} {n : Nat} {xs : List Nat} (h : Rb w p n xs) (k : Kp S w w') (hS : ∀ a, p = some a → a.block < w.heap.size → ¬ S a.block) : Rb w' p n xs :=
  ⟨h.len, h.byte, fun j hj => by
    obtain ⟨b, o, e, hc⟩ := h.cell j hj
    exact ⟨b, o, e, k.cellv hc (hS ⟨b, o, none⟩ e (show b < w.heap.size from World.block_lt_of_cell? w _ hc))⟩⟩
theorem Rb.keep0 {w w' : World} {p : Option Addr} {n : Nat} {xs : List Nat} (h : Rb w p n xs) (k : Kp (fun _ => False) w w') : Rb w' p n xs := h.keep k (fun _ _ _ => id)
theorem Rb.nil (w : World) (p : Option Addr) : Rb w p 0 [] := ⟨rfl, fun _ h => (by cases h), fun j hj => (by omega)⟩
theorem Rb.byteAt {w : World} {p : Option Addr} {n : Nat} {xs : List Nat} (h : Rb w p n xs) (j : Nat) : xs.getD j 0 < 256 := by
  by_cases hj : j < xs.length
  · rw [List.getD_eq_getElem?_getD, List.getElem?_eq_getElem hj]; exact h.byte _ (List.getElem_mem hj)
  · rw [List.getD_eq_getElem?_getD, List.getElem?_eq_none (by omega)]; exact (by decide : (0 : Nat) < 256)
/-- a part of it -/
theorem Rb.part {w : World} {p : Option Addr} {n c : Nat} {xs : List Nat} (h : Rb w p n xs) (hc : n ≤ c) {l r : Nat} (hl : l ≤ r) (hr : r ≤ n) :
    Rb w (if c = l then p else p.map (·.add (l * 1))) (r - l) ((xs.take r).drop l) := by
  refine ⟨by rw [List.length_drop, List.length_take, h.len]; omega, fun x hx => h.byte x (List.mem_of_mem_take (List.mem_of_mem_drop hx)), fun j hj => ?_⟩
  obtain ⟨b, o, rfl, hb⟩ := h.pt (by omega)
  rw [if_neg (by omega)]
  refine ⟨b, o + l, by simp [Addr.add], ?_⟩
  rw [Nat.add_assoc, hb (l + j) (by omega)]
  congr 3
  rw [List.getD_eq_getElem?_getD, List.getD_eq_getElem?_getD, List.getElem?_drop, List.getElem?_take_of_lt (by omega)]

/-- v is bytes xs of one's own -/
abbrev Ow (w : World) (base : Nat) (v : Value) (xs : List Nat) : Prop := w.ownsRow base 5 1 v xs.length (vl xs)
theorem Ow.rb {w : World} {base : Nat} {v : Value} {xs : List Nat} (h : Ow w base v xs) (hx : ∀ x ∈ xs, x < 256) : ∃ p c, v = .slice p xs.length c ∧ xs.length ≤ c ∧ Rb w p xs.length xs ∧ ∀ a, p = some a → base ≤ a.block ∧ v.ownBlock = some a.block := by
  rcases h.2 with ⟨rfl, h0⟩ | ⟨g, cap, cur, rfl, hb, hh, hn, _, hcs, htk⟩
  · have : xs = [] := List.eq_nil_of_length_eq_zero h0
    subst this
    exact ⟨none, 0, rfl, Nat.le_refl _, Rb.nil _ _, fun a e => by cases e⟩
  · refine ⟨_, cap, rfl, hn, ⟨rfl, hx, fun j hj => ⟨g, 0, rfl, ?_⟩⟩, fun a e => by cases e; exact ⟨hb, rfl⟩⟩
    have h1 : (cur.toList.take (xs.length * 1))[j]? = some (.int .u8 ((xs.getD j 0 : Nat) : Int)) := by rw [htk]; exact vl_get hj
    rw [List.getElem?_take_of_lt (by omega), Array.getElem?_toList] at h1
    rw [Nat.zero_add]
    simp [World.cell?, hh, h1]
theorem Rb.src {w : World} {p : Option Addr} {n : Nat} {xs : List Nat} (h : Rb w p n xs) (c : Nat) : Src Tryd.prog 1 30 (.slice p n c) n (vl xs) w := by
  have hl := h.len
  cases p with
  | none =>
    have h0 : n = 0 := by
      rcases Nat.eq_zero_or_pos n with h0 | h0
      · exact h0
      · obtain ⟨b, o, e, _⟩ := h.pt h0; cases e
    subst h0
    have : xs = [] := List.eq_nil_of_length_eq_zero hl
    subst this
    exact Src.ofNil w Tryd.underlying30 c
  | some a =>
    refine Src.ofSlice w Tryd.underlying30 a n c (vl xs) (by rw [vl_length]; omega) (fun j u hj => ?_) (vl_one xs)
    have hj' : j < xs.length := by
      have := (List.getElem?_eq_some_iff.1 hj).1
      rwa [vl_length] at this
    obtain ⟨b, o, e, hb⟩ := h.pt (by omega)
    simp only [Option.some.injEq] at e
    subst e
    rw [vl_get hj'] at hj
    rw [← Option.some.inj hj, show (⟨b, o, none⟩ : Addr).add j = ⟨b, o + j, none⟩ from by simp [Addr.add]]
    exact hb j (by omega)


/-- append of bytes onto bytes of one's own, for the walk -/
theorem wpList_append_bytes {ops : Array Oper} {rest : List Oper} {o : Oper} {a : Act} {Q : Exit → Act → World → Prop} (w : World) (hgd : o.guard = none) (s y : Operand)
    (ho : o.op = .call { callee := .builtin .append, args := #[s, y], argTypes := #[30, 30] })
    (base : Nat) (v : Value) (xs : List Nat) (hs : a.eval s = v) (hown : Ow w base v xs)
    (p : Option Addr) (m c : Nat) (ys : List Nat) (hx : a.eval y = .slice p m c) (hr : Rb w p m ys)
    (hlen : xs.length + m ≤ 140737488355328) (hbase : base ≤ w.heap.size)
    (h : ∀ v' w', Ow w' base v' (xs ++ ys) → Kp (fun b => v.ownBlock = some b) w w' → (v'.ownBlock = v.ownBlock ∨ v'.ownBlock = some w.heap.size) → wpList Tryd.prog ops Q rest (a.put o.dst v') w') :
    wpList Tryd.prog ops Q (o :: rest) a w := by
  obtain ⟨ti, hi0, hz0, hz1, hz2⟩ := info_parts info5
  refine wpList_append_own_src w hgd s y 30 30 ho base 5 ti (.int .u8 0) 1 1 Tryd.underlying30 hi0 hz0 hz1 hz2 rfl (by decide) v xs.length (vl xs) hs hown _ m (vl ys) hx (hr.src c) (by unfold maxLen; omega) (by omega) hbase ?_
  intro v' w' h1 h2 h3
  refine h v' w' ?_ (grownBy_kp h2) h3
  have e : (xs ++ ys).length = xs.length + m := by rw [List.length_append, hr.len]
  unfold Ow
  rw [e, vl_append]
  exact h1

/-- .. at a step of a region that draws its order -/
theorem step_append_bytes {ops : Array Oper} {o : Oper} {a : Act} {K : Act → World → Prop} {Q : Exit → Act → World → Prop} {E : Prop} (w : World) (hgd : o.guard = none) (s y : Operand)
    (ho : o.op = .call { callee := .builtin .append, args := #[s, y], argTypes := #[30, 30] })
    (base : Nat) (v : Value) (xs : List Nat) (hs : a.eval s = v) (hown : Ow w base v xs)
    (p : Option Addr) (m c : Nat) (ys : List Nat) (hx : a.eval y = .slice p m c) (hr : Rb w p m ys)
    (hlen : xs.length + m ≤ 140737488355328) (hbase : base ≤ w.heap.size)
    (h : ∀ v' w', Ow w' base v' (xs ++ ys) → Kp (fun b => v.ownBlock = some b) w w' → (v'.ownBlock = v.ownBlock ∨ v'.ownBlock = some w.heap.size) → K (a.put o.dst v') w') :
    if Region.wanted o (yielded ops a.tmps) = true then Oper.wp Tryd.prog o a w K Q else E := by
  have hw : Region.wanted o (yielded ops a.tmps) = true := by simp [Region.wanted, hgd]
  rw [if_pos hw]
  obtain ⟨ti, hi0, hz0, hz1, hz2⟩ := info_parts info5
  obtain ⟨v', w', hrun, h2, h3, h4⟩ := run_append_own_src (P := Tryd.prog) w base 30 30 o.type 5 ti (.int .u8 0) 1 1 Tryd.underlying30 hi0 hz0 hz1 hz2 rfl (by decide) v xs.length (vl xs) hown _ m (vl ys) (hr.src c) (by unfold maxLen; omega) (by omega) hbase
  unfold Oper.wp execOp
  simp only [ho, resolve, invoke, builtin, Sem.run_bind, Sem.run_pure, Result.andThen_ok, List.map_toArray, List.map_cons, List.map_nil, hs, hx, hrun]
  refine h v' w' ?_ (grownBy_kp h3) h4
  have e : (xs ++ ys).length = xs.length + m := by rw [List.length_append, hr.len]
  unfold Ow
  rw [e, vl_append]
  exact h2

/-- .. onto what the call itself made, which began in w0 -/
theorem step_append_bytes0 {ops : Array Oper} {o : Oper} {a : Act} {K : Act → World → Prop} {Q : Exit → Act → World → Prop} {E : Prop} (w0 w : World) (k0 : Kp (fun _ => False) w0 w) (hgd : o.guard = none) (s y : Operand)
    (ho : o.op = .call { callee := .builtin .append, args := #[s, y], argTypes := #[30, 30] })
    (g c0 : Nat) (xs : List Nat) (hs : a.eval s = .slice (some ⟨g, 0, none⟩) xs.length c0) (hown : Ow w w0.heap.size (.slice (some ⟨g, 0, none⟩) xs.length c0) xs)
    (p : Option Addr) (m c : Nat) (ys : List Nat) (hx : a.eval y = .slice p m c) (hr : Rb w p m ys)
    (hlen : xs.length + m ≤ 140737488355328)
    (h : ∀ v' w', Ow w' w0.heap.size v' (xs ++ ys) → Kp (fun _ => False) w0 w' → Kp (fun b => b = g) w w' → (∀ b, v'.ownBlock = some b → b = g ∨ b = w.heap.size) → K (a.put o.dst v') w') :
    if Region.wanted o (yielded ops a.tmps) = true then Oper.wp Tryd.prog o a w K Q else E :=
  step_append_bytes w hgd s y ho w0.heap.size _ xs hs hown p m c ys hx hr hlen k0.size (fun v' w' h1 h2 h3 => h v' w' h1 (Kp.app k0 hown h2) (h2.mono (fun b _ e => (Option.some.inj (show some g = some b from e)).symm)) (fun b hb => by
    rcases h3 with h3 | h3
    · exact Or.inl (Option.some.inj (show some b = some g from hb.symm.trans h3))
    · exact Or.inr (Option.some.inj (hb.symm.trans h3))))

set_option maxRecDepth 100000 in
theorem bytes_not_nil (p : Addr) (n c : Nat) (w : World) : (binOp .eql 30 (.slice (some p) n c) (.slice none 0 0)).run Tryd.prog w = .ok (.bool false) w := by rfl
set_option maxRecDepth 100000 in
theorem bytes_nil (n c : Nat) (w : World) : (binOp .eql 30 (.slice none n c) (.slice none 0 0)).run Tryd.prog w = .ok (.bool true) w := by rfl
theorem empty_own (w : World) : Ow (w.alloc (.cells #[] 5)) w.heap.size (.slice (some ⟨w.heap.size, 0, none⟩) 0 0) [] :=
  World.ownsRow_made w #[] 0 (Nat.le_refl _) (by unfold maxLen; omega) rfl

set_option maxRecDepth 100000 in
set_option maxHeartbeats 800000 in
theorem clone_any (p : Option Addr) (n c : Nat) (xs : List Nat) (w : World) (h : Rb w p n xs) (hn : Hid (n ≤ 140737488355328)) :
    Calls Tryd.prog 20 #[.slice p n c] w fun e w' => ∃ v, e = .returned v ∧ Kp (fun _ => False) w w' ∧ Ow w' w.heap.size v xs := by
  cases p with
  | none =>
    have h0 : n = 0 := by
      rcases Nat.eq_zero_or_pos n with h0 | h0
      · exact h0
      · obtain ⟨b, o, e, _⟩ := h.pt h0; cases e
    subst h0
    have : xs = [] := List.eq_nil_of_length_eq_zero h.len
    subst this
    clear h
    have hnn := bytes_nil 0 c
    go_enter Tryd.func20, Tryd.ntmps20
    go_wp2
    go_ret
    exact ⟨_, rfl, Kp.refl _ _, World.ownsRow_nil _ _ _ _⟩
  | some a =>
    have hnn := bytes_not_nil a n c
    have hr := h.keep0 ((Kp.refl (fun _ => False) w).alloc (.cells #[] 5))
    go_enter Tryd.func20, Tryd.ntmps20
    go_wp2_with (at_builtin; go_must (refine wpList_append_bytes _ rfl _ _ rfl w.heap.size _ [] rfl (empty_own w) (some a) n c xs rfl hr (by have := hn.out; simp only [List.length_nil]; omega) (by simp) ?_); intro v' w3 hown' hk3 hblk3)
    go_ret
    refine ⟨_, rfl, Kp.trans ((Kp.refl _ _).alloc _) hk3 (fun b hb e => ?_), by simpa using hown'⟩
    have e' : some w.heap.size = some b := e
    have := Option.some.inj e'
    omega

/-- the text of bytes -/
def str (xs : List Nat) : ByteArray := strOfNums (xs.map fun x => ((x : Nat) : Int))
theorem convert_bytes (p : Option Addr) (n c : Nat) (xs : List Nat) (w : World) (h : Rb w p n xs) :
    (convert 30 9 (.slice p n c)).run Tryd.prog w = .ok (.string (str xs)) w := by
  have hl := h.len
  rcases Nat.eq_zero_or_pos n with hn | hn
  · subst hn
    have : xs = [] := List.eq_nil_of_length_eq_zero hl
    subst this
    rw [run_convert_bytes_string w 30 9 5 _ 0 c Tryd.underlying30 Tryd.underlying5 Tryd.underlying9]
    cases p <;> simp [Conv.bytesToString, loadCells]
    all_goals rfl
  · obtain ⟨b, o, rfl, hb⟩ := h.pt hn
    exact run_convert_bytes_arg (P := Tryd.prog) w 30 5 Tryd.underlying30 Tryd.underlying5 b o n c (xs.map fun x => ((x : Nat) : Int)) (by rw [List.length_map, hl]) (fun i hi => by
      rw [hb i hi]
      congr 2
      rw [List.getD_eq_getElem?_getD, List.getD_eq_getElem?_getD, List.getElem?_map, List.getElem?_eq_getElem (by omega)]; rfl) 9 Tryd.underlying9
end Bl
end Go.Proofs.YtbmhfclknilcoaaDoor

/- append of noughts: 'append(x, make([]byte, n)...)'. -/
namespace Go.Proofs.YtbmhfclknilcoaaDoor
namespace Bl
open Go.RowKit Go.Deep

theorem zeros_vl (m : Nat) : Builtin.zeroCells (Value.int .u8 0).cells m = (vl (List.replicate m 0)).toArray := by
  apply Array.ext'
  apply List.ext_getElem?
  intro j
  unfold Builtin.zeroCells vl
  by_cases h : j < m
  · simp [h, Value.cells, Nat.mod_one]
  · simp [h, Value.cells]
theorem vl_rep_length (m : Nat) : (vl (List.replicate m 0)).length = m := by rw [vl_length, List.length_replicate]

theorem run_append_zeros (w : World) (base : Nat) (ty : TypeId) (v : Value) (xs : List Nat) (hown : Ow w base v xs) (m : Nat) (hm : xs.length + m ≤ 1000000) (hbase : base ≤ w.heap.size) :
    ∃ v' w', (Builtin.append_ #[30, 3] ty #[v, .int .i64 (m : Int)]).run Tryd.prog w = .ok v' w' ∧ Ow w' base v' (xs ++ List.replicate m 0) ∧ w.grownBy w' v.ownBlock ∧ (v'.ownBlock = v.ownBlock ∨ v'.ownBlock = some w.heap.size) := by
  obtain ⟨i, hi, hz, hsz, hby⟩ := info_parts info5
  have ht : Tryd.prog.underlying 30 = some (.slice 5) := Tryd.underlying30
  have hk : Tryd.prog.underlying 3 = some (.int .i64) := Tryd.underlying3
  have hlen : (vl (xs ++ List.replicate m 0)).length = xs.length + m := by rw [vl_length, List.length_append, List.length_replicate]
  have hap : vl (xs ++ List.replicate m 0) = vl xs ++ vl (List.replicate m 0) := vl_append _ _
  have hL : (xs ++ List.replicate m 0).length = xs.length + m := by rw [List.length_append, List.length_replicate]
  have hw : IntKind.i64.wrap (m : Int) = (m : Int) := by rw [IntKind.wrap_i64]; omega
  have h0 : ¬ ((m : Int) < 0) := by omega
  have h1 : ¬ (281474976710656 < (m : Int)) := by omega
  have grown : ∀ (old : Nat), old < xs.length + m → ∀ (row : Option Nat),
      Ow (w.drew.alloc (.cells ((vl xs ++ vl (List.replicate m 0)).toArray ++ Builtin.zeroCells (Value.int .u8 0).cells (grownCap w (xs.length + m) old 5 - (xs.length + m))) 5)) base
        (.slice (some ⟨w.heap.size, 0, none⟩) (xs.length + m) (grownCap w (xs.length + m) old 5)) (xs ++ List.replicate m 0) ∧
      w.grownBy (w.drew.alloc (.cells ((vl xs ++ vl (List.replicate m 0)).toArray ++ Builtin.zeroCells (Value.int .u8 0).cells (grownCap w (xs.length + m) old 5 - (xs.length + m))) 5)) row := by
    intro old ho row
    have hge := grownCap_ge w (xs.length + m) old 5
    have hcm : grownCap w (xs.length + m) old 5 ≤ maxLen := grownCap_le_maxLen w (xs.length + m) old 5 (by unfold maxLen; omega)
    refine ⟨⟨by rw [hlen, hL]; omega, .inr ⟨w.heap.size, _, _, by rw [hL], hbase, heap_alloc_new w.drew _, by rw [hL]; exact hge, hcm, ?_, ?_⟩⟩, ⟨rfl, rfl, rfl, by simp, fun k hk _ => heap_alloc_old w.drew _ hk⟩⟩
    · rw [zeros_vl]
      simp only [Array.size_append, List.size_toArray, List.length_append, vl_length, List.length_replicate]
      omega
    · simp only [Array.toList_append, hap, hL]
      rw [show (xs.length + m) * 1 = (vl xs ++ vl (List.replicate m 0)).length from by rw [List.length_append, vl_length, vl_rep_length]; omega]
      exact List.take_left
  rcases hown.2 with ⟨rfl, h00⟩ | ⟨g, cap, cur, rfl, hbg, hg, hnc, hcm, hcs, htake⟩
  · have hx : xs = [] := List.eq_nil_of_length_eq_zero h00
    subst hx
    by_cases hm0 : m = 0
    · subst hm0
      refine ⟨.slice none 0 0, w, ?_, World.ownsRow_nil w base _ _, ⟨rfl, rfl, rfl, Nat.le_refl _, fun _ _ _ => rfl⟩, Or.inl rfl⟩
      have hw0 : IntKind.i64.wrap 0 = 0 := by decide
      simp [Builtin.append_, run_underlying ht, run_underlying hk, sizeOf, typeInfo, hi, asInt, asIntOf, hw0]
    · have hm1 : ¬ ((m : Int) ≤ 0) := by omega
      have hgr := grown 0 (by simp; omega) (Value.ownBlock (.slice none 0 0))
      have hfit := growslice_fits (old := 0) (need := m) (bytes := i.bytes) (by omega) (by rw [hby]; simp at hm; omega)
      rw [hby, Nat.mul_one] at hfit
      have hf' : ¬ (281474976710656 < Builtin.nextslicecap m 0) := by omega
      have hmx : ¬ (9223372036854775807 < (m : Int)) := by simp at hm; omega
      simp only [List.length_nil, Nat.zero_add] at hgr
      refine ⟨_, _, ?_, hgr.1, hgr.2, Or.inr rfl⟩
      rw [zeros_vl]
      simp [Builtin.append_, run_underlying ht, run_underlying hk, sizeOf, typeInfo, zeroValue, hi, hz, asInt, asIntOf, hw, h0, h1, hsz, hby, hm0, hmx, hf', Question.forced, newRow, grownCap, Builtin.firstCells, zeros_vl]
      rfl
  · by_cases hroom : xs.length + m ≤ cap
    · have hfit : xs.length + m ≤ cur.size := by omega
      have hst := run_storeCells_at Tryd.prog g (xs.length * 1) 5 (vl (List.replicate m 0)) 0 cur w hg (by rw [vl_rep_length]; omega) (vl_one _)
      simp only [Nat.add_zero, Nat.mul_one] at hst
      have hr : (Builtin.append_ #[30, 3] ty #[.slice (some ⟨g, 0, none⟩) xs.length cap, .int .i64 (m : Int)]).run Tryd.prog w =
          .ok (.slice (some ⟨g, 0, none⟩) (xs.length + m) cap) (w.setRow g (cur.toList.take xs.length ++ vl (List.replicate m 0) ++ cur.toList.drop (xs.length + (vl (List.replicate m 0)).length)).toArray) := by
        by_cases hm0 : m = 0
        · subst hm0
          have hw0 : IntKind.i64.wrap 0 = 0 := by decide
          simp only [List.replicate_zero] at hst ⊢
          have e1 : vl [] = [] := rfl
          rw [e1] at hst ⊢
          simp [Builtin.append_, run_underlying ht, run_underlying hk, sizeOf, typeInfo, hi, asInt, asIntOf, hw0, hsz, Nat.le_of_lt_succ (Nat.lt_succ_of_le hnc), Addr.add_lit] at hst ⊢
          rw [hst]; rfl
        · simp [Builtin.append_, run_underlying ht, run_underlying hk, sizeOf, typeInfo, zeroValue, hi, hz, asInt, asIntOf, hw, h0, h1, hsz, hby, hm0, hroom, Addr.add_lit, zeros_vl, hst]
      refine ⟨_, _, hr, ⟨by rw [hlen, hL]; omega, .inr ⟨g, cap, _, by rw [hL], hbg, setRow_heap w g cur _ 5 _ hg, by rw [hL]; exact hroom, hcm, ?_, ?_⟩⟩, ⟨rfl, rfl, rfl, by simp, fun k _ hk => setRow_other w g k _ (fun e => hk (by simp [Value.ownBlock, e]))⟩, Or.inl rfl⟩
      · simp only [List.size_toArray, List.length_append, List.length_take, List.length_drop, Array.length_toList, vl_rep_length]
        omega
      · have ht1 : cur.toList.take xs.length = vl xs := by rw [Nat.mul_one] at htake; exact htake
        rw [ht1, hap, hL, show (xs.length + m) * 1 = (vl xs ++ vl (List.replicate m 0)).length from by rw [List.length_append, vl_length, vl_rep_length]; omega]
        exact List.take_left
    · have hm0 : m ≠ 0 := by omega
      have holds : ∀ j u, (vl xs)[j]? = some u → w.drew.cell? ((⟨g, 0, none⟩ : Addr).add j) = some u := by simpa using hown.cells (g := g) rfl
      have hold := run_firstCells_some (P := Tryd.prog) w.drew i.size xs.length ⟨g, 0, none⟩ xs.length cap (vl xs) (by rw [hsz, vl_length]; omega) holds
      rw [hsz] at hold
      have hgr := grown cap (by omega) (Value.ownBlock (.slice (some ⟨g, 0, none⟩) xs.length cap))
      have hfit := growslice_fits (old := cap) (need := xs.length + m) (bytes := i.bytes) (by omega) (by rw [hby]; omega)
      rw [hby, Nat.mul_one] at hfit
      have hf' : ¬ (281474976710656 < Builtin.nextslicecap (xs.length + m) cap) := by omega
      have hmx : ¬ (9223372036854775807 < ((xs.length : Int) + (m : Int))) := by omega
      refine ⟨_, _, ?_, hgr.1, hgr.2, Or.inr rfl⟩
      rw [zeros_vl]
      simp [Builtin.append_, run_underlying ht, run_underlying hk, sizeOf, typeInfo, zeroValue, hi, hz, asInt, asIntOf, hw, h0, h1, hsz, hby, hm0, hroom, hmx, hf', Question.forced, newRow, grownCap, hold, zeros_vl]

/-- .. at a step of a region that draws its order -/
theorem step_append_zeros {ops : Array Oper} {o : Oper} {a : Act} {K : Act → World → Prop} {Q : Exit → Act → World → Prop} {E : Prop} (w0 w : World) (k0 : Kp (fun _ => False) w0 w) (hgd : o.guard = none) (s y : Operand)
    (ho : o.op = .call { callee := .builtin .append, args := #[s, y], argTypes := #[30, 3] })
    (v : Value) (xs : List Nat) (hs : a.eval s = v) (hown : Ow w w0.heap.size v xs) (m : Nat) (hx : a.eval y = .int .i64 (m : Int)) (hlen : xs.length + m ≤ 1000000)
    (h : ∀ v' w', Ow w' w0.heap.size v' (xs ++ List.replicate m 0) → Kp (fun _ => False) w0 w' → K (a.put o.dst v') w') :
    if Region.wanted o (yielded ops a.tmps) = true then Oper.wp Tryd.prog o a w K Q else E := by
  have hw : Region.wanted o (yielded ops a.tmps) = true := by simp [Region.wanted, hgd]
  rw [if_pos hw]
  obtain ⟨v', w', hrun, h2, h3, h4⟩ := run_append_zeros w w0.heap.size o.type v xs hown m hlen k0.size
  unfold Oper.wp execOp
  simp only [ho, resolve, invoke, builtin, Sem.run_bind, Sem.run_pure, Result.andThen_ok, List.map_toArray, List.map_cons, List.map_nil, hs, hx, hrun]
  exact h v' w' h2 (Kp.app k0 hown (grownBy_kp h3))
end Bl
end Go.Proofs.YtbmhfclknilcoaaDoor
