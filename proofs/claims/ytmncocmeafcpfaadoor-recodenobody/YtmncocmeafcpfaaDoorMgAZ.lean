/- Texts of this proof, joined: Ra6, Ra7, Ra8, Ft. -/
import Derived.Test.YtmncocmeafcpfaaDoorMgAW
import Derived.Test.YtmncocmeafcpfaaDoorMgAM
import Derived.Test.YtmncocmeafcpfaaDoorMgAY
import Derived.Test.YtmncocmeafcpfaaDoorMgAN
import Derived.ShutString
import Derived.ChangeOld
import Derived.Below
import Derived.SizedLaws
import Derived.Test.YtmncocmeafcpfaaDoorRows
import Derived.ProofKit
import Derived.OpenShut
/- The walk of the law RecodeForgets (laid by scripts/mkrg.py). -/
namespace Go.Proofs.YtmncocmeafcpfaaDoor
set_option linter.unusedVariables false
set_option linter.unusedSimpArgs false
open Go.RowKit Go.Deep

theorem rb_to {w : World} {p : Option Addr} {n : Nat} {xs : List Nat} (h : Rb w p n xs) : Mf.Bl.Rb w p n xs := ⟨h.len, h.byte, h.cell⟩

set_option maxRecDepth 100000 in
set_option maxHeartbeats 1600000 in
theorem rasks {w : World} {base r f g q oq cq n : Nat} {sm cnt : Int} {p5 : Option Addr} {c5 : Nat} (h : Rco w base r f g q oq cq n sm cnt (.slice none 0 0) p5 c5) (ep : Int) :
    Calls Tryd.prog 28 #[.pointer (some ⟨r, 0, none⟩), .int .i64 ep] w fun e w' => ∃ p c, e = .returned (.slice p 2 c) ∧ Kp (fun _ => False) w w' := by
  have HRC : Hid (Rco w base r f g q oq cq n sm cnt (.slice none 0 0) p5 c5) := h
  have HPh : Hid (Calls _ _ _ w _) := rphase r 1 w (h.lr.cell (j := 0) rfl)
  clear h
  go_enter Tryd.func28, Tryd.ntmps28
  go_wp2_with (go_at_call 29; refine HPh.out.mono ?_; rintro e w1 ⟨rfl, hw1⟩; obtain rfl := hw1.symm)
  have kd : Kp (fun _ => False) w w.drew := (Kp.refl _ _).drew
  have Rd := HRC.out.keep0 kd
  refine ra3_region ⟨by kernel_rfl, by kernel_rfl, by kernel_rfl, by kernel_rfl, by kernel_rfl, by kernel_rfl, by kernel_rfl, by kernel_rfl, by kernel_rfl, by kernel_rfl, by kernel_rfl, by kernel_rfl, by kernel_rfl, by kernel_rfl, by kernel_rfl, by kernel_rfl, by kernel_rfl⟩ r f ep (.int .i64 0) (fun d _ _ _ _ h => by cases d <;> exact h) (by rfl) (by rfl) (by rfl) ⟨Rd.lr.cell (j := 7) rfl, Rd.lr.cell (j := 1) rfl⟩ (fun v z => ∃ p c, v = .slice p 2 c ∧ Kp (fun _ => False) w z) ((fasks2 Rd.fe 2 ep).mono ?_) ?_
  · rintro e z ⟨p, c, rfl, kz⟩
    have Rz := Rd.keep0 kz
    exact ⟨_, rfl, ⟨Rz.lr.cell (j := 7) rfl, Rz.lr.cell (j := 1) rfl⟩, p, c, rfl, kd.trans kz (fun _ _ e => e)⟩
  intro v z hT
  simp only [Act.put, List.setIfInBounds_toArray, List.set_cons_succ, List.set_cons_zero]
  obtain ⟨p, c, rfl, kz⟩ := hT
  clear Rd kd
  go_wp2
  go_ret
  first | exact ⟨⟨p, c, rfl⟩, kz⟩ | exact ⟨p, c, rfl, kz⟩

/-- what the first shard of the document's Cut reads as -/
theorem cut_first {w : World} {v : Value} {n : Nat} {bl : List Nat} {D : Nat → Nat → Nat} (h1 : 1 ≤ n) (h8 : n ≤ 8) (hb : bl.length = n) (hbb : ∀ x ∈ bl, x < 256) (hM : Mf.Mx w v 2 8 (Mf.enc 1 D)) (hD : ∀ q, q < 1 → ∀ j, j < 8 → D q j = Mf.cutAt 1 (fun i => bl.getD i 0) n q j) :
    ∃ (sb so sc : Nat) (sp : Option Addr) (c0 : Nat) (ys : List Nat), v = .slice (some ⟨sb, so, none⟩) 2 sc ∧ w.cell? ⟨sb, so, none⟩ = some (.slice sp 8 c0) ∧ Rb w sp 8 ys ∧ ys.take n = bl := by
  obtain ⟨s, rfl, hs, hG, hL, hMM⟩ := hM
  have hg := hs.at0 (by omega)
  have hd0 := hs.hd 0 (by omega)
  rw [hL 0 (by omega), Nat.add_zero] at hd0
  have hbyte : ∀ i, bl.getD i 0 < 256 := fun i => by
    rw [List.getD_eq_getElem?_getD]
    cases h : bl[i]? with
    | none => simp
    | some x => exact hbb x (List.mem_of_getElem? h)
  refine ⟨s.gb, s.go, s.cap, s.A 0, s.C 0, (List.range 8).map (fun j => Mf.enc 1 D 0 j), by rw [hg, hG], hd0, ⟨by simp, fun x hx => ?_, fun j hj => ?_⟩, ?_⟩
  · obtain ⟨j, _, rfl⟩ := List.mem_map.1 hx
    exact Mf.enc_lt _ _ _ _
  · refine ⟨s.RB 0, s.RO 0, hs.to 0 (by omega) j (by rw [hL 0 (by omega)]; exact hj), ?_⟩
    have := hs.cell 0 (by omega) j (by rw [hL 0 (by omega)]; exact hj)
    rw [this, hMM, List.getD_eq_getElem?_getD, List.getElem?_map, List.getElem?_range hj]
    rfl
  · apply List.ext_getElem
    · simp; omega
    · intro j hj1 hj2
      have hjn : j < n := by simp at hj1; omega
      rw [List.getElem_take, List.getElem_map, List.getElem_range]
      have e1 : Mf.enc 1 D 0 j = Mf.enc 1 (Mf.cutAt 1 (fun i => bl.getD i 0) n) 0 j := Mf.enc_congr (fun q hq => hD q hq j (by omega)) 0
      rw [e1, Mf.enc_data (fun i k => Mf.cutAt_lt hbyte 1 n i k) (by decide)]
      have e2 := Mf.cutAt_seat 1 (fun i => bl.getD i 0) (cnt := n) (i := j) hjn
      rw [show Mf.seatK 1 j = 0 by unfold Mf.seatK; omega, show Mf.seatAt 1 j = j by unfold Mf.seatAt; omega] at e2
      rw [e2, List.getD_eq_getElem?_getD, List.getElem?_eq_getElem hj2]
      rfl
theorem rb_set {w : World} {g : Nat} {y0 z0 : Nat} {yt : List Nat} (h : Rb w (some ⟨g, 0, none⟩) 8 (y0 :: yt)) (hz : z0 < 256) (hc : (w.cell? ⟨g, 0, none⟩).isSome = true) : Rb (w.setCell ⟨g, 0, none⟩ (.int .u8 (z0 : Int))) (some ⟨g, 0, none⟩) 8 (z0 :: yt) := by
  refine ⟨h.len, fun x hx => ?_, fun j hj => ⟨g, 0, rfl, ?_⟩⟩
  · rcases List.mem_cons.1 hx with rfl | hx
    · exact hz
    · exact h.byte x (List.mem_cons_of_mem _ hx)
  · rcases j with _ | j
    · rw [Nat.zero_add]
      obtain ⟨v, hv⟩ := Option.isSome_iff_exists.1 hc
      rw [World.cell?_setCell_same _ _ _ hv]
      rfl
    · obtain ⟨b, o, e, hcc⟩ := h.cell (j + 1) hj
      injection e with e
      injection e with e1 e2
      subst e1 e2
      rw [World.cell?_setCell_other _ _ _ _ (fun e => by injection e with _ e; omega), hcc]
      rfl
theorem sums_part {n y0 z0 : Nat} {yt bl : List Nat} (h1 : 1 ≤ n) (hy : (y0 :: yt).take n = bl) (hz : z0 < 256) (hy0 : y0 < 256) (hne : z0 ≠ y0) : (((Crc.sum ((z0 :: yt).take n) : Nat) : Int) != ((Crc.sum bl : Nat) : Int)) = true := by
  obtain ⟨k, rfl⟩ : ∃ k, n = k + 1 := ⟨n - 1, by omega⟩
  rw [List.take_succ_cons] at hy ⊢
  rw [← hy]
  have : Crc.sum (z0 :: yt.take k) ≠ Crc.sum (y0 :: yt.take k) := fun e => hne (sum_head hz hy0 e)
  simp
  omega
theorem apart_f {w : World} {f g q oq cq n : Nat} {sm cnt : Int} (h : Fe2 w f g q oq cq n sm cnt (.slice none 0 0)) (ex : Exa w f g) {b o : Nat} {v : Value} (hv : w.cell? ⟨b, o, none⟩ = some v) (h1 : ∀ z, v ≠ .int .i64 z) (h2 : ∀ z, v ≠ .int .u32 z) (h3 : ∀ p c, v ≠ .slice p 2 c) (h4 : v ≠ .slice none 0 0) : b ≠ f ∧ b ≠ g := by
  have so : ∀ {x y : Value}, w.cell? ⟨b, o, none⟩ = some x → some x = some y → v = y := fun hx hy => by
    rw [hv] at hx
    exact (Option.some.inj hx).trans (Option.some.inj hy)
  constructor
  · rintro rfl
    by_cases ho : 8 ≤ o
    · rw [ex.1 o ho] at hv; cases hv
    · have ho' : o = 0 ∨ o = 1 ∨ o = 2 ∨ o = 3 ∨ o = 4 ∨ o = 5 ∨ o = 6 ∨ o = 7 := by omega
      rcases ho' with rfl | rfl | rfl | rfl | rfl | rfl | rfl | rfl
      · exact h1 _ (so (h.lf.cell (j := 0) rfl) rfl)
      · exact h1 _ (so (h.lf.cell (j := 1) rfl) rfl)
      · exact h2 _ (so (h.lf.cell (j := 2) rfl) rfl)
      · exact h1 _ (so (h.lf.cell (j := 3) rfl) rfl)
      · exact h1 _ (so (h.lf.cell (j := 4) rfl) rfl)
      · exact h3 _ _ (so (h.lf.cell (j := 5) rfl) rfl)
      · exact h3 _ _ (so (h.lf.cell (j := 6) rfl) rfl)
      · exact h1 _ (so (h.lf.cell (j := 7) rfl) rfl)
  · rintro rfl
    by_cases ho : 2 ≤ o
    · rw [ex.2 o ho] at hv; cases hv
    · have ho' : o = 0 ∨ o = 1 := by omega
      rcases ho' with rfl | rfl
      · exact h4 (so (h.lg.cell (j := 0) rfl) rfl)
      · exact h4 (so (h.lg.cell (j := 1) rfl) rfl)
end Go.Proofs.YtmncocmeafcpfaaDoor

/- The walk of the law RecodeForgets (laid by scripts/mkrh.py). -/
namespace Go.Proofs.YtmncocmeafcpfaaDoor
set_option linter.unusedVariables false
set_option linter.unusedSimpArgs false
open Go.RowKit Go.Deep

theorem xor_turn (y e : Nat) (hy : y < 256) (he : e < 256) (h0 : e ≠ 0) : y ^^^ e < 256 ∧ y ^^^ e ≠ y := by
  refine ⟨Nat.xor_lt_two_pow (n := 8) (by omega) (by omega), fun h => h0 ?_⟩
  have := congrArg (fun z => y ^^^ z) h
  simp only [← Nat.xor_assoc, Nat.xor_self, Nat.zero_xor] at this
  exact this
theorem byE (n : Int) : ∃ e : Nat, IntKind.u8.wrap (IntKind.u64.wrap (1 + (IntKind.u64.wrap n).tmod 255)) = (e : Int) ∧ e < 256 ∧ e ≠ 0 := by
  have h0 : 0 ≤ IntKind.u64.wrap n := by rw [IntKind.wrap_u64]; omega
  rw [Int.tmod_eq_emod_of_nonneg h0]
  have h1 := Int.emod_nonneg (IntKind.u64.wrap n) (by omega : (255 : Int) ≠ 0)
  have h2 := Int.emod_lt_of_pos (IntKind.u64.wrap n) (by omega : (0 : Int) < 255)
  obtain ⟨m, hm⟩ : ∃ m, m = IntKind.u64.wrap n % 255 := ⟨_, rfl⟩
  rw [← hm] at h1 h2 ⊢
  refine ⟨(1 + m).toNat, ?_, by omega, by omega⟩
  have e1 : IntKind.u64.wrap (1 + m) = 1 + m := by rw [IntKind.wrap_u64]; omega
  rw [e1]
  have e2 : IntKind.u8.wrap (1 + m) = 1 + m := by first | (rw [IntKind.wrap_u8]; omega) | (simp [IntKind.wrap, IntKind.bits, IntKind.signed]; omega)
  rw [e2]
  omega

theorem own_head {w : World} {base : Nat} {wp : Option Addr} {k wc : Nat} {ys : List Nat} (h : Ow w base (.slice wp k wc) ys) (hl : 0 < ys.length) : ∃ g, wp = some ⟨g, 0, none⟩ ∧ w.frozen? ⟨g, 0, none⟩ = false := by
  rcases h.2 with ⟨e, h0⟩ | ⟨g, cap, cur, e, hb, hh, _⟩
  · omega
  · injection e with e1
    exact ⟨g, e1, by simp [World.frozen?, hh]⟩

set_option maxRecDepth 100000 in
set_option maxHeartbeats 6400000 in
theorem recodeForgets_walk (p : Option Addr) (n0 c0 : Nat) (xs0 : List Nat) (iv : Int) (w : World) (h : Rb w p n0 xs0) (hc : n0 ≤ c0) (hn : Hid (n0 ≤ 140737488355328)) (_h : (Lit.int .i64 iv).wf = true) (hp : Mf.Pows w) (ht : Turns w) :
    Calls Tryd.prog 7 #[.slice p n0 c0, .int .i64 iv] w fun e w' => e = .returned (.bool true) ∧ Kp (fun _ => False) w w' := by
  clear _h
  obtain ⟨E, hE, hE1, hE2⟩ := byE iv
  obtain ⟨r, hr⟩ : ∃ r, r = min n0 7 := ⟨_, rfl⟩
  have hr7 : r ≤ 7 := by omega
  have hrn : r ≤ n0 := by omega
  have hmin : min (n0 : Int) 7 = (r : Int) := by omega
  have hsl := fun w => sl_firstL p n0 c0 r (by omega) w
  have hx : Rb w p r (xs0.take r) := by
    refine ⟨by rw [List.length_take, h.len]; omega, fun x hx => h.byte x (List.mem_of_mem_take hx), fun j hj => ?_⟩
    obtain ⟨b, o, e1, e2⟩ := h.cell j (by omega)
    refine ⟨b, o, e1, ?_⟩
    rw [e2, List.getD_eq_getElem?_getD, List.getD_eq_getElem?_getD, List.getElem?_take_of_lt hj]
  obtain ⟨bl, hbl⟩ : ∃ bl, bl = xs0.take r ++ [1] := ⟨_, rfl⟩
  obtain ⟨n, hnn⟩ : ∃ n, n = r + 1 := ⟨_, rfl⟩
  have HBL : Hid (bl = xs0.take r ++ [1] ∧ bl.length = n ∧ (∀ x ∈ bl, x < 256) ∧ 1 ≤ n ∧ n ≤ 8) := by
    refine ⟨hbl, by rw [hbl, List.length_append, hx.len, hnn]; rfl, fun x hxx => ?_, by omega, by omega⟩
    rw [hbl, List.mem_append] at hxx
    rcases hxx with e | e
    · exact hx.byte x e
    · simp at e; omega
  have HX : Hid (Rb w p r (xs0.take r) ∧ r ≤ 7 ∧ (xs0.take r).length = r) := ⟨hx, hr7, hx.len⟩
  have HP : Hid (Mf.Pows w ∧ Turns w ∧ 1 < w.heap.size ∧ 0 < w.heap.size) := ⟨hp, ht, hp.lt, World.block_lt_of_cell? _ _ (ht 0 (by omega))⟩
  have HE : Hid (E < 256 ∧ E ≠ 0) := ⟨hE1, hE2⟩
  have HO0 : Hid (Ow (w.alloc (.cells #[] 5)) w.heap.size (.slice (some ⟨w.heap.size, 0, none⟩) 0 0) []) := empty_own w
  have ka : Kp (fun _ => False) w (w.alloc (.cells #[] 5)) := (Kp.refl _ _).alloc _
  clear h hc hn hp ht hx hr hr7 hrn hbl hnn hE1 hE2
  go_enter Tryd.func7, Tryd.ntmps7
  go_wp2_with (first
    | (at_builtin; refine wpList_append_bytes _ rfl _ _ rfl w.heap.size _ [] rfl HO0.out p r c0 (xs0.take r) rfl (HX.out.1.keep0 ka) (by have := HX.out.2.1; simp; omega) (by simp) ?_; intro v1 w1 o1 k1 b1; have HK1 : Hid (Kp (fun _ => False) w w1 ∧ Ow w1 w.heap.size v1 (xs0.take r)) := ⟨ka.trans k1 (fun b hb e => (by have e' : w.heap.size = b := Option.some.inj e; omega)), o1⟩; clear o1 k1 b1)
    | (at_builtin; refine wpList_append_bytes _ rfl _ _ rfl w.heap.size _ (xs0.take r) rfl (ownsRow_keep HK1.out.2 ((Kp.refl (fun _ => False) w1).alloc _) (fun _ _ => id)) (some ⟨w1.heap.size, 0, none⟩) 1 1 [1] rfl ⟨rfl, (fun x hx => by simp at hx; omega), (fun j hj => ⟨w1.heap.size, 0, rfl, by obtain rfl : j = 0 := (by omega); exact (Lv.new w1 #[.int .u8 1] 5).cell (j := 0) rfl⟩)⟩ (by rw [HX.out.2.2]; have := HX.out.2.1; omega) (by have := HK1.out.1.size; simp; omega) ?_; intro v2 w2 o2 k2 b2; have HK2 : Hid (Kp (fun _ => False) w w2 ∧ Ow w2 w.heap.size v2 bl) := ⟨(HK1.out.1.alloc _).trans k2 (fun b hb e => (by have := (ownBlock_lt HK1.out.2 e).1; omega)), (by rw [HBL.out.1]; exact o2)⟩; clear o2 k2 b2; obtain ⟨vp, vc, hv2, hvc, hvb, hvp⟩ := HK2.out.2.rb HBL.out.2.2.1; rw [HBL.out.2.1] at hv2 hvc hvb; subst hv2)
    | fail)
  obtain ⟨sm, hsm⟩ : ∃ sm : Int, sm = ((Crc.sum bl : Nat) : Int) := ⟨_, rfl⟩
  have HSM : Hid (sm = ((Crc.sum bl : Nat) : Int)) := hsm
  have HSum : Hid (Calls Tryd.prog 26 #[.slice vp n vc] w2 fun e w' => e = .returned (.int .u32 sm) ∧ w' = w2) := by
    rw [HSM.out]
    exact refSum_any vp n vc bl w2 hvb (by have := HBL.out.2.2.2; omega)
  have HW2 : Hid (Kp (fun _ => False) w w2 ∧ Rb w2 vp n bl) := ⟨HK2.out.1, hvb⟩
  have HOb : Hid ((blobA (bF n sm) (.slice (some ⟨w2.heap.size, 0, none⟩) 2 2)).toList.toArray.all (·.oneCell') = true) := blob_one _ rfl
  clear hvc hvb hvp HK2 hsm HO0 hsl hmin
  obtain ⟨ba, hba⟩ : ∃ ba : Array Value, ba = blobA (bF n sm) (.slice (some ⟨w2.heap.size, 0, none⟩) 2 2) := ⟨_, rfl⟩
  have HBA : Hid (ba = blobA (bF n sm) (.slice (some ⟨w2.heap.size, 0, none⟩) 2 2)) := hba
  rw [← hba] at HOb
  have hba' : #[.int .i64 4, .int .i64 (n : Int), .int .u32 sm, .int .i64 1, .int .i64 1, .slice (some ⟨w2.heap.size, 0, none⟩) 2 2] = ba := hba.symm
  clear hba
  have HL0 : Hid (Lv ((w2.alloc (.cells #[.int .i64 0, .int .i64 1] 3)).alloc (.cells zeroB 33)) (w2.heap.size + 1) zeroB.toList) := by
    have hh := Lv.new (w2.alloc (.cells #[.int .i64 0, .int .i64 1] 3)) zeroB 33
    rw [show (w2.alloc (.cells #[.int .i64 0, .int .i64 1] 3)).heap.size = w2.heap.size + 1 by simp] at hh
    exact hh
  have HN01 : Hid (Lv (w2.alloc (.cells #[.int .i64 0, .int .i64 1] 3)) w2.heap.size [.int .i64 0, .int .i64 1]) := Lv.new w2 _ _
  go_wp2_with (first
    | (go_at_call 26; refine HSum.out.mono ?_; rintro e w3 ⟨rfl, hw3⟩; obtain rfl := hw3.symm)
    | (refine wpList_store_all rfl 33 _ _ rfl 6 (w2.heap.size + 1) zeroB.toList ba.toList rfl (by rw [Array.toArray_toList]; rfl) HL0.out szBlob rfl (by rw [HBA.out]; rfl) HOb.out ?_; intro z4 hl4 k4; have HZ4 : Hid (Kp (fun _ => False) w2 z4 ∧ Lv z4 (w2.heap.size + 1) ba.toList ∧ Lv z4 w2.heap.size [.int .i64 0, .int .i64 1]) := ⟨(((Kp.refl (fun _ => False) w2).alloc _).alloc _).trans k4 (fun b hb e => by omega), hl4, (HN01.out.keep ((Kp.refl (fun _ => False) _).alloc _) id).keep k4 (fun e => by omega)⟩; clear hl4 k4)
    | (refine wpList_load_all rfl 33 _ rfl 6 (w2.heap.size + 1) ba.toList rfl HZ4.out.2.1 dsBlob szBlob (by rw [HBA.out]; rfl) ?_; rw [Array.toArray_toList])
    | fail)
  have k45 : Kp (fun _ => False) z4 (z4.alloc (.cells #[.int .i64 5] 3)) := (Kp.refl _ _).alloc _
  have n01 := HZ4.out.2.2.keep k45 id
  have hnew := recNew n sm w2.heap.size 0 2 z4.heap.size 0 1 (z4.alloc (.cells #[.int .i64 5] 3)) (n01.cell (j := 0) rfl) (n01.cell (j := 1) rfl) (by omega) (by have := HBL.out.2.2.2; omega) ((Lv.new z4 #[.int .i64 5] 3).cell (j := 0) rfl) (by omega)
  rw [← HBA.out] at hnew
  refine hnew.mono ?_
  rintro e z5 ⟨x, f, g, q, oq, cq, p9, c9, rfl, k5, R5, ex5⟩
  have kw4 : Kp (fun _ => False) w z4 := HW2.out.1.trans HZ4.out.1 (fun _ _ e => e)
  have k25 : Kp (fun _ => False) w2 z5 := (HZ4.out.1.trans k45 (fun _ _ e => e)).trans k5 (fun _ _ e => e)
  have kw5 : Kp (fun _ => False) w z5 := HW2.out.1.trans k25 (fun _ _ e => e)
  obtain ⟨base, hbase⟩ : ∃ base, base = (z4.alloc (.cells #[.int .i64 5] 3)).heap.size := ⟨_, rfl⟩
  rw [← hbase] at R5
  have hbw : w.heap.size ≤ base := by rw [hbase]; exact Nat.le_trans kw4.size k45.size
  have HR5 : Hid (Rco z5 base x f g q oq cq n sm 0 (.slice none 0 0) p9 c9 ∧ Kp (fun _ => False) w z5 ∧ w.heap.size ≤ base ∧ Exa z5 f g) := ⟨R5, kw5, hbw, ex5⟩
  have lb5 : Lv z5 (w2.heap.size + 1) ba.toList := (HZ4.out.2.1.keep k45 id).keep k5 id
  rw [HBA.out] at lb5
  have d3 := lb5.cell (j := 3) rfl
  have d4 := lb5.cell (j := 4) rfl
  have HCut : Hid (Calls Tryd.prog 13 #[.agg #[.int .i64 1, .int .i64 1], .slice vp n vc] z5 fun e w' => ∃ (sb so sc : Nat) (sp : Option Addr) (c8 : Nat) (ys : List Nat), e = .returned (.tuple #[.slice (some ⟨sb, so, none⟩) 2 sc, .int .i64 0]) ∧ Kp (fun _ => False) z5 w' ∧ w'.cell? ⟨sb, so, none⟩ = some (.slice sp 8 c8) ∧ Rb w' sp 8 ys ∧ ys.take n = bl) := by
    obtain ⟨hb1, hb2, hb3, hb4, hb5⟩ := HBL.out
    have hL : Mf.lenOf 1 n = 8 := by unfold Mf.lenOf Mf.stripesOf; omega
    refine (Mf.refCut_yes 1 1 n vp vc bl z5 (rb_to (HW2.out.2.keep0 k25)) (by decide) (by decide) (by omega)).mono ?_
    rintro e w' ⟨v, D, rfl, hk, hM, hD⟩
    rw [hL] at hM hD
    obtain ⟨sb, so, sc, sp, c8, ys, rfl, hc1, hc2, hc3⟩ := cut_first hb4 hb5 hb2 hb3 hM hD
    exact ⟨sb, so, sc, sp, c8, ys, rfl, kp_of hk, hc1, hc2, hc3⟩
  clear hnew n01 k45 k5 R5 ex5 kw4 k25 kw5 hbase hbw lb5 HZ4 HL0 HN01 HSum HOb HBA hba'
  go_wp2_with (first
    | (go_at_call 13; refine HCut.out.mono ?_; rintro e z6 ⟨sb, so, sc, sp, c8, ys, rfl, k6, hcell, hrb, hys⟩; have HZ6 : Hid (Kp (fun _ => False) z5 z6 ∧ z6.cell? ⟨sb, so, none⟩ = some (.slice sp 8 c8) ∧ Rb z6 sp 8 ys ∧ ys.take n = bl) := ⟨k6, hcell, hrb, hys⟩; have HO6 : Hid (Ow (z6.alloc (.cells #[] 5)) z6.heap.size (.slice (some ⟨z6.heap.size, 0, none⟩) 0 0) []) := empty_own z6; have hcell2 := ((Kp.refl (fun _ => False) z6).alloc (.cells #[] 5)).cellv hcell id; clear k6 hrb hys hcell)
    | (at_builtin; refine wpList_append_bytes _ rfl _ _ rfl z6.heap.size _ [] rfl HO6.out sp 8 c8 ys rfl (HZ6.out.2.2.1.keep0 ((Kp.refl (fun _ => False) z6).alloc _)) (by simp) (by simp) ?_; intro v7 z7 o7 k7 b7; have HZ7 : Hid (Kp (fun _ => False) z6 z7 ∧ Ow z7 z6.heap.size v7 ys) := ⟨((Kp.refl (fun _ => False) z6).alloc _).trans k7 (fun b hb e => (by have e' : z6.heap.size = b := Option.some.inj e; omega)), o7⟩; clear o7 k7 b7; obtain ⟨wp, wc, hv7, hwc, hwb, hwp⟩ := HZ7.out.2.rb HZ6.out.2.2.1.byte; rw [HZ6.out.2.2.1.len] at hv7 hwc hwb; subst hv7; obtain ⟨g7, e7, f7⟩ : ∃ g7, wp = some ⟨g7, 0, none⟩ ∧ z7.frozen? ⟨g7, 0, none⟩ = false := own_head HZ7.out.2 (by rw [HZ6.out.2.2.1.len]; omega); subst e7; obtain ⟨b7, o7, e8, hcc⟩ := hwb.pt (by omega); obtain ⟨rfl, rfl⟩ : b7 = g7 ∧ o7 = 0 := (by injection e8 with e8; injection e8 with x y; exact ⟨x.symm, y.symm⟩); have hy0 := hcc 0 (by omega); rw [Nat.zero_add] at hy0)
    | fail)
  obtain ⟨y0, yt, hyy⟩ : ∃ y0 yt, ys = y0 :: yt := by
    have := HZ6.out.2.2.1.len
    cases ys with
    | nil => simp at this
    | cons a t => exact ⟨a, t, rfl⟩
  subst hyy
  obtain ⟨k6, hs6, rb6, hys⟩ := HZ6.out
  have hy256 : y0 < 256 := rb6.byte y0 (by simp)
  obtain ⟨ht1, ht2⟩ := xor_turn y0 E hy256 HE.out.1 HE.out.2
  obtain ⟨z0, hz0⟩ : ∃ z0, z0 = y0 ^^^ E := ⟨_, rfl⟩
  rw [← hz0] at ht1 ht2
  have hbits : bits .xor .u8 ((((y0 :: yt)[0]?.getD 0 : Nat)) : Int) (E : Int) = ((z0 : Nat) : Int) := by
    rw [hz0]
    exact Mf.u8_xor_cast y0 E (by omega) (by have := HE.out.1; omega)
  try rw [hbits]
  have rb8 := rb_set (z0 := z0) hwb ht1 (by rw [hy0]; rfl)
  have k78 : Kp (fun b => b = b7) z7 (z7.setCell ⟨b7, 0, none⟩ (.int .u8 (z0 : Int))) := (Kp.refl (fun b => b = b7) z7).setCell (fun _ => rfl) _
  obtain ⟨z8, hz8⟩ : ∃ z8, z8 = z7.setCell ⟨b7, 0, none⟩ (.int .u8 (z0 : Int)) := ⟨_, rfl⟩
  rw [← hz8] at rb8 k78 ⊢
  clear hz8
  have hb7 : z6.heap.size ≤ b7 := (hwp _ rfl).1
  have k68 : Kp (fun _ => False) z6 z8 := HZ7.out.1.trans k78 (fun b hb e => by have e' : b = b7 := e; omega)
  have h56 := k6.size
  have k58 : Kp (fun _ => False) z5 z8 := k6.trans k68 (fun _ _ e => e)
  obtain ⟨R5, kw5, hbw, ex5⟩ := HR5.out
  have R8 := R5.keep0 k58
  have ex8 := ex5.keep k58 R5.fe.lt.1 R5.fe.lt.2.1
  have kw8 := kw5.trans k58 (fun _ _ e => e)
  have hs8 := k68.cellv hs6 id
  have rbs8 := rb6.keep0 k68
  obtain ⟨hb1, hb2, hb3, hb4, hb5⟩ := HBL.out
  obtain ⟨hp, ht, hg1, hg2⟩ := HP.out
  have hgb : 1 < base ∧ 0 < base := ⟨by omega, by omega⟩
  have ap1 := apart_f R8.fe ex8 hs8 (fun z e => by cases e) (fun z e => by cases e) (fun p c e => by cases e) (fun e => by cases e)
  have ap2 : ∀ a, sp = some a → a.block ≠ f ∧ a.block ≠ g := fun a ha => by
    obtain ⟨pb, po, e1, hcc2⟩ := rbs8.pt (by omega)
    have hc0 := hcc2 0 (by omega)
    rw [e1] at ha
    obtain rfl := Option.some.inj ha
    exact apart_f R8.fe ex8 hc0 (fun z e => by cases e) (fun z e => by cases e) (fun p c e => by cases e) (fun e => by cases e)
  have hon1 := ron_bad R8 (some ⟨b7, 0, none⟩) wc (z0 :: yt) rb8 hb4 hb5 (pows_keep hp kw8 id) (ht.keep0 kw8) hgb (by
    show _ = true
    rw [HSM.out]
    exact sums_part hb4 hys ht1 hy256 ht2)
  refine hon1.mono ?_
  rintro e z9 ⟨rfl, k9, R9⟩
  have hs9 := k9.cellv hs8 (fun e => by rcases e with e | e; exact ap1.1 e; exact ap1.2 e)
  have rbs9 := rbs8.keep k9 (fun a ha _ e => by have := ap2 a ha; rcases e with e | e; exact this.1 e; exact this.2 e)
  have hbb := R9.b
  have kw9 : Kp (fun _ => False) w z9 := kw8.trans k9 (fun b hb e => by omega)
  have HPh9 : Hid (Calls _ _ _ z9 _) := rphase x 1 z9 (R9.lr.cell (j := 0) rfl)
  have HAs9 : Hid (Calls _ _ _ z9 _) := rasks R9 1
  have HOn : Hid (∀ z, Kp (fun _ => False) z9 z → Calls _ _ _ z _) := fun z k => ron_good (R9.keep0 k) sp c8 (y0 :: yt) (rbs9.keep0 k) hb4 hb5 (pows_keep hp (kw9.trans k (fun _ _ e => e)) id) (ht.keep0 (kw9.trans k (fun _ _ e => e))) hgb (by
    show _ = false
    rw [HSM.out, hys]
    simp)
  have HK9 : Hid (Kp (fun _ => False) w z9 ∧ w.heap.size ≤ x ∧ w.heap.size ≤ f ∧ w.heap.size ≤ g ∧ z9.cell? ⟨sb, so, none⟩ = some (.slice sp 8 c8)) := ⟨kw9, by omega, by omega, by omega, hs9⟩
  clear hon1 k9 R9 hs9 rbs9 kw9 hbb ap1 ap2 hgb hp ht hg1 hg2 hb1 hb2 hb3 hb4 hb5 rbs8 hs8 kw8 ex8 R8 R5 kw5 hbw ex5 k58 h56 k68 hb7 k78 rb8 hbits ht1 ht2 hz0 hy256 k6 hs6 rb6 hys hcell2 hwb hwp hcc hy0 f7 hwc
  go_wp2_with (first
    | (go_at_call 29; refine HPh9.out.mono ?_; rintro e u1 ⟨rfl, hu1⟩; obtain rfl := hu1.symm)
    | (go_at_call 28; refine HAs9.out.mono ?_; rintro e z10 ⟨pA, cA, rfl, k10⟩; have hs10 := k10.cellv HK9.out.2.2.2.2 id)
    | (go_at_call 30; refine (HOn.out _ k10).mono ?_; rintro e z11 ⟨rfl, k11, nv, sp2, lr11⟩; have HPh11 : Hid (Calls _ _ _ z11 _) := rphase x 2 z11 (lr11.cell (j := 0) rfl))
    | (go_at_call 29; refine HPh11.out.mono ?_; rintro e u1 ⟨rfl, hu1⟩; obtain rfl := hu1.symm)
    | fail)
  go_ret
  obtain ⟨kw9, hx9, hf9, hg9, _⟩ := HK9.out
  exact ⟨rfl, (kw9.trans k10 (fun _ _ e => e)).trans k11 (fun b hb e => by omega)⟩
end Go.Proofs.YtmncocmeafcpfaaDoor

/- Recoders that no call made; the walk of the law RecodeNobody (laid by scripts/mkri.py). -/
namespace Go.Proofs.YtmncocmeafcpfaaDoor
set_option linter.unusedVariables false
set_option linter.unusedSimpArgs false
open Go.RowKit Go.Deep

/-- v is a recoder that no call made -/
def Nr (w : World) (v : Value) : Prop := v = .pointer none ∨ ∃ b, v = .pointer (some ⟨b, 0, none⟩) ∧ w.cell? ⟨b, 0, none⟩ = some (.int .i64 0)
theorem Nr.keep {w w' : World} {v : Value} (h : Nr w v) (k : Kp (fun _ => False) w w') : Nr w' v := by
  rcases h with h | ⟨b, h, hc⟩
  · exact Or.inl h
  · exact Or.inr ⟨b, h, k.cellv hc id⟩

set_option maxRecDepth 100000 in
set_option maxHeartbeats 400000 in
theorem qphase (v : Value) (w : World) (h : Nr w v) : Calls Tryd.prog 29 #[v] w fun e w' => e = .returned (.int .i64 0) ∧ w' = w := by
  rcases h with rfl | ⟨b, rfl, hc⟩
  · go_enter Tryd.func29, Tryd.ntmps29
    go_wp2
    go_ret
    exact ⟨rfl, rfl⟩
  · exact rphase b 0 w hc

set_option maxRecDepth 100000 in
set_option maxHeartbeats 400000 in
theorem qmade (v : Value) (w : World) (h : Nr w v) : Calls Tryd.prog 67 #[v] w fun e w' => e = .returned (.bool false) ∧ w' = w := by
  have H : Hid (Calls _ _ _ w _) := qphase v w h
  clear h
  go_enter Tryd.func67, Tryd.ntmps67
  go_wp2_with (go_at_call 29; refine H.out.mono ?_; rintro e w1 ⟨rfl, hw1⟩; subst hw1)
  go_ret
  exact ⟨rfl, rfl⟩

set_option maxRecDepth 100000 in
set_option maxHeartbeats 400000 in
theorem qasks (v : Value) (i : Int) (w : World) (h : Nr w v) : Calls Tryd.prog 28 #[v, .int .i64 i] w fun e w' => e = .returned (.slice none 0 0) ∧ w' = w := by
  have H : Hid (Calls _ _ _ w _) := qphase v w h
  clear h
  go_enter Tryd.func28, Tryd.ntmps28
  go_wp2_with (go_at_call 29; refine H.out.mono ?_; rintro e w1 ⟨rfl, hw1⟩; subst hw1)
  go_ret
  exact ⟨rfl, rfl⟩

set_option maxRecDepth 100000 in
set_option maxHeartbeats 400000 in
theorem qon (v : Value) (c : Array Value) (w : World) (h : Nr w v) : Calls Tryd.prog 30 #[v, .agg c] w fun e w' => e = .returned (.bool false) ∧ Kp (fun _ => False) w w' := by
  have H : Hid (∀ u, Kp (fun _ => False) w u → Calls _ _ _ u _) := fun u k => qphase v u (h.keep k)
  clear h
  go_enter Tryd.func30, Tryd.ntmps30
  go_wp2_with (go_at_call 29; refine (H.out _ (by exact (Kp.refl _ _).alloc _)).mono ?_; rintro e w1 ⟨rfl, hw1⟩; subst hw1)
  go_ret
  exact ⟨rfl, (Kp.refl _ _).alloc _⟩

set_option maxRecDepth 100000 in
set_option maxHeartbeats 400000 in
theorem qrecode (v : Value) (w : World) (h : Nr w v) : Calls Tryd.prog 33 #[v] w fun e w' => e = .returned (.agg zeroR) ∧ Kp (fun _ => False) w w' := by
  have H : Hid (∀ u, Kp (fun _ => False) w u → Calls _ _ _ u _) := fun u k => qmade v u (h.keep k)
  have HL : Hid (Lv (w.alloc (.cells zeroR 66)) w.heap.size zeroR.toList) := Lv.new w _ _
  have ka : Kp (fun _ => False) w (w.alloc (.cells zeroR 66)) := (Kp.refl _ _).alloc _
  have HO : Hid (zeroR.toList.toArray.all (·.oneCell') = true) := all_oneCell_toArray (fun x hx => by
    simp only [List.mem_cons, List.not_mem_nil, or_false] at hx
    rcases hx with rfl | rfl | rfl | rfl | rfl <;> rfl)
  clear h
  go_enter Tryd.func33, Tryd.ntmps33
  go_wp2_with (first
    | (go_at_call 67; refine (H.out _ ka).mono ?_; rintro e w1 ⟨rfl, hw1⟩; obtain rfl := hw1.symm)
    | (refine wpList_store_all rfl 66 _ _ rfl 5 w.heap.size zeroR.toList zeroR.toList rfl rfl HL.out szRcd rfl rfl HO.out ?_; intro w2 hl2 k2))
  refine bodyPost_ret (res_cell Tryd.results33 _ _ w.heap.size _ rfl (hl2.load dsRcd szRcd rfl)) rfl ?_
  exact ⟨rfl, ka.trans k2 (fun b hb e => by omega)⟩

set_option maxRecDepth 100000 in
set_option maxHeartbeats 400000 in
theorem same_rcd (w : World) : Calls Tryd.prog 32 #[.agg zeroR, .agg zeroR] w fun e w' => e = .returned (.bool true) ∧ Kp (fun _ => False) w w' := by
  have H : Hid (∀ u, Calls Tryd.prog 66 #[.slice none 0 0, .slice none 0 0] u fun e w' => e = .returned (.bool true) ∧ Kp (fun _ => False) u w') := fun u => same_ints (fun _ => True) (fun _ => True) none none 0 0 [] u (fun j x hx => by simp at hx) (fun j x hx => by simp at hx) (by show _ ≤ _; decide)
  have ka : Kp (fun _ => False) w ((w.alloc (.cells zeroR 66)).alloc (.cells zeroR 66)) := ((Kp.refl _ _).alloc _).alloc _
  go_enter Tryd.func32, Tryd.ntmps32
  go_wp2_with (go_at_call 66; refine (H.out _).mono ?_; rintro e w1 ⟨rfl, k1⟩)
  go_ret
  exact ⟨rfl, ka.trans k1 (fun _ _ e => e)⟩

theorem wpList_ldw {ops : Array Oper} {rest : List Oper} {op : Oper} {a : Act} {w : World} {Q : Exit → Act → World → Prop} (hw : Region.wanted op (yielded ops a.tmps) = true) (ty : TypeId) (x : Operand) (ho : op.op = .load ty x)
    (b o : Nat) (hx : a.eval x = .pointer (some ⟨b, o, none⟩)) (cs : List Value) (d : TypeDesc) (hc : w.rangeAt b o cs)
    (hu : Tryd.prog.underlying ty = some d) (hd : d.isRow = true) (hi : (Tryd.prog.info? ty).map (·.size) = some cs.length)
    (h : wpList Tryd.prog ops Q rest (a.put op.dst (.agg cs.toArray)) w) : wpList Tryd.prog ops Q (op :: rest) a w :=
  wpList_step fun K hK => by simp only [hw, if_true]; exact wp_load_mid ty x ho b o hx cs d hc hu hd hi (hK _ _ h)

abbrev zRec : Array Value := #[.int .i64 0, .int .i64 0, .int .i64 0, .int .i64 0, .int .i64 0, .int .i64 0, .slice none 0 0, .pointer none, .pointer none]
set_option maxRecDepth 100000 in
set_option maxHeartbeats 3200000 in
theorem recodeNobody_walk (c : Array Value) (ep : Int) (w : World) (hsz : c.size = 24) (_h : (Lit.int .i64 ep).wf = true) (hp : Mf.Pows w) (ht : Turns w) :
    Calls Tryd.prog 8 #[.agg c, .int .i64 ep] w fun e w' => e = .returned (.bool true) ∧ Kp (fun _ => False) w w' := by
  have HF : Hid (∀ z, Kp (fun _ => False) w z → Calls Tryd.prog 7 #[.slice none 0 0, .int .i64 1] z _) := fun z k => recodeForgets_walk none 0 0 [] 1 z (Rb.nil _ _) (by omega) (by show _ ≤ _; decide) (by decide) (pows_keep hp k id) (ht.keep0 k)
  obtain ⟨cs, hcs⟩ : ∃ cs, cs = c.toList := ⟨_, rfl⟩
  obtain rfl : c = cs.toArray := by rw [hcs]
  have hln : cs.length = 24 := by simpa using hsz
  have kA : Kp (fun _ => False) w (w.alloc (.cells cs.toArray 45)) := (Kp.refl _ _).alloc _
  have HX : Hid (Lv (w.alloc (.cells cs.toArray 45)) w.heap.size cs) := Lv.new w cs.toArray 45
  have HLN : Hid (cs.length = 24) := hln
  clear hcs hsz _h hln hp ht
  go_enter Tryd.func8, Tryd.ntmps8
  go_wp2
  have s1 : (w.alloc (.cells cs.toArray 45)).heap.size = w.heap.size + 1 := by simp
  have s2 : ((w.alloc (.cells cs.toArray 45)).alloc (.cells zRec 75)).heap.size = w.heap.size + 2 := by simp
  have kB : Kp (fun _ => False) w (((w.alloc (.cells cs.toArray 45)).alloc (.cells zRec 75)).alloc (.cells #[.pointer none, .pointer (some ⟨w.heap.size + 1, 0, none⟩)] 67)) := (kA.alloc _).alloc _
  have lz : Lv (((w.alloc (.cells cs.toArray 45)).alloc (.cells zRec 75)).alloc (.cells #[.pointer none, .pointer (some ⟨w.heap.size + 1, 0, none⟩)] 67)) (w.heap.size + 1) zRec.toList := by
    have hh := Lv.new (w.alloc (.cells cs.toArray 45)) zRec 75
    rw [s1] at hh
    exact hh.keep ((Kp.refl (fun _ => False) _).alloc _) id
  have lp : Lv (((w.alloc (.cells cs.toArray 45)).alloc (.cells zRec 75)).alloc (.cells #[.pointer none, .pointer (some ⟨w.heap.size + 1, 0, none⟩)] 67)) (w.heap.size + 2) [.pointer none, .pointer (some ⟨w.heap.size + 1, 0, none⟩)] := by
    have hh := Lv.new ((w.alloc (.cells cs.toArray 45)).alloc (.cells zRec 75)) #[.pointer none, .pointer (some ⟨w.heap.size + 1, 0, none⟩)] 67
    rw [s2] at hh
    exact hh
  have lx : Lv (((w.alloc (.cells cs.toArray 45)).alloc (.cells zRec 75)).alloc (.cells #[.pointer none, .pointer (some ⟨w.heap.size + 1, 0, none⟩)] 67)) w.heap.size cs := HX.out.keep (((Kp.refl (fun _ => False) _).alloc _).alloc _) id
  obtain ⟨W0, hW0⟩ : ∃ x, x = (((w.alloc (.cells cs.toArray 45)).alloc (.cells zRec 75)).alloc (.cells #[.pointer none, .pointer (some ⟨w.heap.size + 1, 0, none⟩)] 67)) := ⟨_, rfl⟩
  rw [← hW0] at kB lz lp lx
  have HA : Hid (Kp (fun _ => False) w W0 ∧ Lv W0 (w.heap.size + 1) zRec.toList ∧ Lv W0 (w.heap.size + 2) [.pointer none, .pointer (some ⟨w.heap.size + 1, 0, none⟩)] ∧ Lv W0 w.heap.size cs) := ⟨kB, lz, lp, lx⟩
  have HW0 : Hid (W0 = (((w.alloc (.cells cs.toArray 45)).alloc (.cells zRec 75)).alloc (.cells #[.pointer none, .pointer (some ⟨w.heap.size + 1, 0, none⟩)] 67))) := hW0
  clear kA HX s1 s2 kB lz lp lx hW0
  obtain ⟨dM, hdM1, hdM2⟩ := dsMsg
  go_loopg [11] 2 (fun gk i wr => ∃ (k : Nat), k ≤ 2 ∧ gk = 2 - k ∧ i = .int .i64 k ∧ Hid (Kp (fun _ => False) W0 wr))
  case atStart => exact ⟨0, by omega, rfl, rfl, by rw [HW0.out]; exact Kp.refl _ _⟩
  case round =>
    obtain ⟨k, hk, rfl, rfl, HS⟩ := hrel
    clear HW0
    obtain ⟨wr0, rfl⟩ : ∃ x, x = wr := ⟨_, rfl⟩
    by_cases hlt : (k : Int) < 2
    · obtain ⟨v, hv, hnr⟩ : ∃ v, wr0.cell? ⟨w.heap.size + 2, 0 + k, none⟩ = some v ∧ Nr W0 v := by
        have lp := HA.out.2.2.1.keep HS.out id
        have hk2 : k = 0 ∨ k = 1 := by omega
        rcases hk2 with rfl | rfl
        · exact ⟨.pointer none, lp.cell (j := 0) rfl, Or.inl rfl⟩
        · exact ⟨.pointer (some ⟨w.heap.size + 1, 0, none⟩), lp.cell (j := 1) rfl, Or.inr ⟨_, rfl, HA.out.2.1.cell (j := 0) rfl⟩⟩
      have hN0 : Nr wr0 v := hnr.keep HS.out
      have HXr : Hid (Lv wr0 w.heap.size cs) := HA.out.2.2.2.keep HS.out id
      have hv' : wr0.cell? ⟨w.heap.size + 2, k, none⟩ = some v := by simpa using hv
      have HN0 : Hid (Nr wr0 v) := hN0
      clear hv hnr hN0
      go_wp2_with (first
        | (go_at_call 29; refine (qphase _ _ HN0.out).mono ?_; rintro e y1 ⟨rfl, hy1⟩; obtain rfl := hy1.symm)
        | (go_at_call 28; refine (qasks _ ep _ HN0.out).mono ?_; rintro e y1 ⟨rfl, hy1⟩; obtain rfl := hy1.symm)
        | (refine wpList_ldw (by first | rfl | go_simp) 45 _ rfl w.heap.size 0 rfl cs dM HXr.out.r hdM1 hdM2 (by rw [szMsg, HLN.out]) ?_)
        | (go_at_call 30; refine (qon _ cs.toArray _ HN0.out).mono ?_; rintro e y2 ⟨rfl, ky2⟩; have HK2 : Hid (Kp (fun _ => False) wr0 y2) := ky2; clear ky2)
        | (go_at_call 33; refine (qrecode _ _ (HN0.out.keep HK2.out)).mono ?_; rintro e y3 ⟨rfl, ky3⟩; have HK3 : Hid (Kp (fun _ => False) y2 y3) := ky3; clear ky3)
        | (go_at_call 32; refine (same_rcd _).mono ?_; rintro e y4 ⟨rfl, ky4⟩; have HK4 : Hid (Kp (fun _ => False) y3 y4) := ky4; clear ky4)
        | fail)
      go_roundg (2 - (k + 1))
      case rel => exact ⟨k + 1, by omega, rfl, by go_num, ((HS.out.trans HK2.out (fun _ _ e => e)).trans HK3.out (fun _ _ e => e)).trans HK4.out (fun _ _ e => e)⟩
      case measure => omega
    · obtain rfl : k = 2 := by omega
      have kw := HA.out.1.trans HS.out (fun _ _ e => e)
      go_wp2_with (go_at_call 7; refine (HF.out _ kw).mono ?_; rintro e w2 ⟨rfl, k2⟩)
      go_ret
      exact ⟨rfl, kw.trans k2 (fun _ _ e => e)⟩
end Go.Proofs.YtmncocmeafcpfaaDoor

/- What the rows' frames share: how bytes come in, as lists that the walks take. -/
namespace Go.Proofs.YtmncocmeafcpfaaDoor
open Go.ChangeShapes Go.WideShapes Go.ChangeAt Go.RowKit

theorem laidOut : laidOutB Tryd.prog = true := by kernel_rfl

theorem sized_bytes {H : Type} {ts : List TypeId} {ds : List (DataW H)} {j : Nat} {elems spare : List (DataW H)} (h : (DataW.weightsEach Tryd.prog ts ds).all (· ≤ reachBytes) = true) (ht : ts[j]? = some 22) (hd : ds[j]? = some (.slice elems spare)) :
    elems.length + spare.length ≤ 140737488355328 := by
  have hr : reachBytes ≤ 140737488355328 := by have := reachBytes_lt; omega
  have b2 : Tryd.prog.bytesOf 5 = 1 := by kernel_rfl
  have := sized_slice h ht hd Tryd.underlying22
  rw [b2] at this; omega

theorem rb_of_trod {H : Type} {enc : TypeId × Value → H} {W : World} {a : Option Addr} {len cap : Nat} {d : DataW H} {p : List MemPlace}
    (h : DataW.Trod enc Tryd.prog W 0 (fun _ => true) true 22 (.slice a len cap) d p)
    (hw : ∀ elems spare, d = .slice elems spare → elems.length + spare.length ≤ 140737488355328) : ∃ xs, Rb W a len xs ∧ len ≤ cap ∧ Hid (len ≤ 140737488355328) := by
  obtain ⟨fuel, hf⟩ := h
  rcases open_ints Tryd.underlying22 Tryd.underlying5 (by kernel_rfl) hf with ⟨hcs, _⟩ | ⟨x, l, c, zs, hcs, hxx, hl, hm, hz, hDx, hcell, hwz⟩
  · simp [Value.cells] at hcs
    obtain ⟨rfl, rfl, rfl⟩ := hcs
    exact ⟨[], Rb.nil _ _, Nat.le_refl _, Nat.zero_le _⟩
  · simp [Value.cells] at hcs
    obtain ⟨rfl, rfl, rfl⟩ := hcs
    have hz' : zs.length = cap := by simpa using hz
    have hd := (Prod.mk.inj hDx).1
    have hlen := hw _ _ hd
    simp only [lits, List.length_map, List.length_take, List.length_drop] at hlen
    refine ⟨(zs.take len).map Int.toNat, ⟨by rw [List.length_map, List.length_take]; omega, fun y hy => ?_, fun j hj => ?_⟩, hl, by show len ≤ _; omega⟩
    · obtain ⟨z, hzm, rfl⟩ := List.mem_map.1 hy
      have := bounds_u8 (hwz z (List.mem_of_mem_take hzm))
      omega
    · obtain ⟨b, off, spot⟩ := x
      have hc := hcell j (by omega)
      have hspot : spot = none := by
        have := World.cell?_spot (hcell 0 (by omega))
        simpa [Addr.add] using this
      subst hspot
      refine ⟨b, off, rfl, ?_⟩
      rw [show (⟨b, off, none⟩ : Addr).add j = ⟨b, off + j, none⟩ from by by_cases e : j = 0 <;> simp [Addr.add, e]] at hc
      rw [hc]
      have hj' : j < zs.length := by omega
      have e : zs.getD j 0 = zs[j] := by rw [List.getD_eq_getElem?_getD, List.getElem?_eq_getElem hj']; rfl
      have := bounds_u8 (hwz zs[j] (List.getElem_mem hj'))
      have e2 : ((zs.take len).map Int.toNat).getD j 0 = zs[j].toNat := by
        rw [List.getD_eq_getElem?_getD, List.getElem?_map, List.getElem?_take_of_lt (by omega), List.getElem?_eq_getElem hj']; rfl
      rw [e, e2, Int.toNat_of_nonneg this.1]
end Go.Proofs.YtmncocmeafcpfaaDoor
