/- The walk of the law RecodeForgets (laid by scripts/mkrg.py). -/
import Derived.Test.YtmncocmeafcpfaaDoorRa5
import Derived.Test.YtmncocmeafcpfaaDoorRk1
import Derived.Test.YtmncocmeafcpfaaDoorMfSu
import Derived.Test.YtmncocmeafcpfaaDoorYl
import Derived.Test.YtmncocmeafcpfaaDoorLi
namespace Go.Proofs.YtmncocmeafcpfaaDoor
set_option linter.unusedVariables false
set_option linter.unusedSimpArgs false
open Go.RowKit Go.Deep

theorem rb_to {w : World} {p : Option Addr} {n : Nat} {xs : List Nat} (h : Rb w p n xs) : Mf.Bl.Rb w p n xs := ⟨h.len, h.byte, h.cell⟩

set_option maxRecDepth 100000 in
set_option maxHeartbeats 1600000 in
theorem rasks {w : World} {base r f g q oq cq n : Nat} {sm cnt : Int} {p5 : Option Addr} {c5 : Nat} (h : Rco w base r f g q oq cq n sm cnt (.slice none 0 0) p5 c5) (ep : Int) :
    Calls Tryd.prog 28 #[.pointer (some ⟨r, 0, none⟩), .int .i64 ep] w fun e w' => ∃ p c, e = .returned (.slice p 2 c) ∧ Kp (fun _ => False) w w' := by
  have HRC : Hid (Rco w base r f g q oq cq n sm cnt (.slice none 0 0) p5 c5) := h
  have HPh : Hid (Calls _ _ _ w _) := rphase r 1 w (h.lr.cell (j := 0) rfl)
  clear h
  go_enter Tryd.func28, Tryd.ntmps28
  go_wp2_with (go_at_call 29; refine HPh.out.mono ?_; rintro e w1 ⟨rfl, hw1⟩; obtain rfl := hw1.symm)
  have kd : Kp (fun _ => False) w w.drew := (Kp.refl _ _).drew
  have Rd := HRC.out.keep0 kd
  refine ra3_region ⟨by kernel_rfl, by kernel_rfl, by kernel_rfl, by kernel_rfl, by kernel_rfl, by kernel_rfl, by kernel_rfl, by kernel_rfl, by kernel_rfl, by kernel_rfl, by kernel_rfl, by kernel_rfl, by kernel_rfl, by kernel_rfl, by kernel_rfl, by kernel_rfl, by kernel_rfl⟩ r f ep (.int .i64 0) (fun d _ _ _ _ h => by cases d <;> exact h) (by rfl) (by rfl) (by rfl) ⟨Rd.lr.cell (j := 7) rfl, Rd.lr.cell (j := 1) rfl⟩ (fun v z => ∃ p c, v = .slice p 2 c ∧ Kp (fun _ => False) w z) ((fasks2 Rd.fe 2 ep).mono ?_) ?_
  · rintro e z ⟨p, c, rfl, kz⟩
    have Rz := Rd.keep0 kz
    exact ⟨_, rfl, ⟨Rz.lr.cell (j := 7) rfl, Rz.lr.cell (j := 1) rfl⟩, p, c, rfl, kd.trans kz (fun _ _ e => e)⟩
  intro v z hT
  simp only [Act.put, List.setIfInBounds_toArray, List.set_cons_succ, List.set_cons_zero]
  obtain ⟨p, c, rfl, kz⟩ := hT
  clear Rd kd
  go_wp2
  go_ret
  first | exact ⟨⟨p, c, rfl⟩, kz⟩ | exact ⟨p, c, rfl, kz⟩

/-- what the first shard of the document's Cut reads as -/
theorem cut_first {w : World} {v : Value} {n : Nat} {bl : List Nat} {D : Nat → Nat → Nat} (h1 : 1 ≤ n) (h8 : n ≤ 8) (hb : bl.length = n) (hbb : ∀ x ∈ bl, x < 256) (hM : Mf.Mx w v 2 8 (Mf.enc 1 D)) (hD : ∀ q, q < 1 → ∀ j, j < 8 → D q j = Mf.cutAt 1 (fun i => bl.getD i 0) n q j) :
    ∃ (sb so sc : Nat) (sp : Option Addr) (c0 : Nat) (ys : List Nat), v = .slice (some ⟨sb, so, none⟩) 2 sc ∧ w.cell? ⟨sb, so, none⟩ = some (.slice sp 8 c0) ∧ Rb w sp 8 ys ∧ ys.take n = bl := by
  obtain ⟨s, rfl, hs, hG, hL, hMM⟩ := hM
  have hg := hs.at0 (by omega)
  have hd0 := hs.hd 0 (by omega)
  rw [hL 0 (by omega), Nat.add_zero] at hd0
  have hbyte : ∀ i, bl.getD i 0 < 256 := fun i => by
    rw [List.getD_eq_getElem?_getD]
    cases h : bl[i]? with
    | none => simp
    | some x => exact hbb x (List.mem_of_getElem? h)
  refine ⟨s.gb, s.go, s.cap, s.A 0, s.C 0, (List.range 8).map (fun j => Mf.enc 1 D 0 j), by rw [hg, hG], hd0, ⟨by simp, fun x hx => ?_, fun j hj => ?_⟩, ?_⟩
  · obtain ⟨j, _, rfl⟩ := List.mem_map.1 hx
    exact Mf.enc_lt _ _ _ _
  · refine ⟨s.RB 0, s.RO 0, hs.to 0 (by omega) j (by rw [hL 0 (by omega)]; exact hj), ?_⟩
    have := hs.cell 0 (by omega) j (by rw [hL 0 (by omega)]; exact hj)
    rw [this, hMM, List.getD_eq_getElem?_getD, List.getElem?_map, List.getElem?_range hj]
    rfl
  · apply List.ext_getElem
    · simp; omega
    · intro j hj1 hj2
      have hjn : j < n := by simp at hj1; omega
      rw [List.getElem_take, List.getElem_map, List.getElem_range]
      have e1 : Mf.enc 1 D 0 j = Mf.enc 1 (Mf.cutAt 1 (fun i => bl.getD i 0) n) 0 j := Mf.enc_congr (fun q hq => hD q hq j (by omega)) 0
      rw [e1, Mf.enc_data (fun i k => Mf.cutAt_lt hbyte 1 n i k) (by decide)]
      have e2 := Mf.cutAt_seat 1 (fun i => bl.getD i 0) (cnt := n) (i := j) hjn
      rw [show Mf.seatK 1 j = 0 by unfold Mf.seatK; omega, show Mf.seatAt 1 j = j by unfold Mf.seatAt; omega] at e2
      rw [e2, List.getD_eq_getElem?_getD, List.getElem?_eq_getElem hj2]
      rfl
theorem rb_set {w : World} {g : Nat} {y0 z0 : Nat} {yt : List Nat} (h : Rb w (some ⟨g, 0, none⟩) 8 (y0 :: yt)) (hz : z0 < 256) (hc : (w.cell? ⟨g, 0, none⟩).isSome = true) : Rb (w.setCell ⟨g, 0, none⟩ (.int .u8 (z0 : Int))) (some ⟨g, 0, none⟩) 8 (z0 :: yt) := by
  refine ⟨h.len, fun x hx => ?_, fun j hj => ⟨g, 0, rfl, ?_⟩⟩
  · rcases List.mem_cons.1 hx with rfl | hx
    · exact hz
    · exact h.byte x (List.mem_cons_of_mem _ hx)
  · rcases j with _ | j
    · rw [Nat.zero_add]
      obtain ⟨v, hv⟩ := Option.isSome_iff_exists.1 hc
      rw [World.cell?_setCell_same _ _ _ hv]
      rfl
    · obtain ⟨b, o, e, hcc⟩ := h.cell (j + 1) hj
      injection e with e
      injection e with e1 e2
      subst e1 e2
      rw [World.cell?_setCell_other _ _ _ _ (fun e => by injection e with _ e; omega), hcc]
      rfl
theorem sums_part {n y0 z0 : Nat} {yt bl : List Nat} (h1 : 1 ≤ n) (hy : (y0 :: yt).take n = bl) (hz : z0 < 256) (hy0 : y0 < 256) (hne : z0 ≠ y0) : (((Crc.sum ((z0 :: yt).take n) : Nat) : Int) != ((Crc.sum bl : Nat) : Int)) = true := by
  obtain ⟨k, rfl⟩ : ∃ k, n = k + 1 := ⟨n - 1, by omega⟩
  rw [List.take_succ_cons] at hy ⊢
  rw [← hy]
  have : Crc.sum (z0 :: yt.take k) ≠ Crc.sum (y0 :: yt.take k) := fun e => hne (sum_head hz hy0 e)
  simp
  omega
theorem apart_f {w : World} {f g q oq cq n : Nat} {sm cnt : Int} (h : Fe2 w f g q oq cq n sm cnt (.slice none 0 0)) (ex : Exa w f g) {b o : Nat} {v : Value} (hv : w.cell? ⟨b, o, none⟩ = some v) (h1 : ∀ z, v ≠ .int .i64 z) (h2 : ∀ z, v ≠ .int .u32 z) (h3 : ∀ p c, v ≠ .slice p 2 c) (h4 : v ≠ .slice none 0 0) : b ≠ f ∧ b ≠ g := by
  have so : ∀ {x y : Value}, w.cell? ⟨b, o, none⟩ = some x → some x = some y → v = y := fun hx hy => by
    rw [hv] at hx
    exact (Option.some.inj hx).trans (Option.some.inj hy)
  constructor
  · rintro rfl
    by_cases ho : 8 ≤ o
    · rw [ex.1 o ho] at hv; cases hv
    · have ho' : o = 0 ∨ o = 1 ∨ o = 2 ∨ o = 3 ∨ o = 4 ∨ o = 5 ∨ o = 6 ∨ o = 7 := by omega
      rcases ho' with rfl | rfl | rfl | rfl | rfl | rfl | rfl | rfl
      · exact h1 _ (so (h.lf.cell (j := 0) rfl) rfl)
      · exact h1 _ (so (h.lf.cell (j := 1) rfl) rfl)
      · exact h2 _ (so (h.lf.cell (j := 2) rfl) rfl)
      · exact h1 _ (so (h.lf.cell (j := 3) rfl) rfl)
      · exact h1 _ (so (h.lf.cell (j := 4) rfl) rfl)
      · exact h3 _ _ (so (h.lf.cell (j := 5) rfl) rfl)
      · exact h3 _ _ (so (h.lf.cell (j := 6) rfl) rfl)
      · exact h1 _ (so (h.lf.cell (j := 7) rfl) rfl)
  · rintro rfl
    by_cases ho : 2 ≤ o
    · rw [ex.2 o ho] at hv; cases hv
    · have ho' : o = 0 ∨ o = 1 := by omega
      rcases ho' with rfl | rfl
      · exact h4 (so (h.lg.cell (j := 0) rfl) rfl)
      · exact h4 (so (h.lg.cell (j := 1) rfl) rfl)
end Go.Proofs.YtmncocmeafcpfaaDoor
