/- Texts of this proof, joined: Bo, Ft. -/
import Derived.Test.YtfmndffgmemgpaaGreatDoorMgBB
import Derived.Test.YtfmndffgmemgpaaGreatDoorMgAA
import Derived.ShutString
import Derived.ChangeOld
import Derived.Below
import Derived.SizedLaws
import Derived.Test.YtfmndffgmemgpaaGreatDoorRows
import Derived.ProofKit
import Derived.OpenShut
/- A log of a new plate, as the verifier makes it, with what its plate has. -/
namespace Go.Proofs.YtfmndffgmemgpaaGreatDoor
set_option linter.unusedVariables false
set_option linter.unusedSimpArgs false
open Go.RowKit Go.Deep

theorem logN_new {n s : Nat} (hn : n = 2 + s) (hs : 1 ≤ s) : LogN (nowOf (wrHead (List.replicate (n * 64) 0) (fun _ => none) n 1 (hdB 1 1 0 1)) (fun _ => none)) s 1 1 0 1 [] := by
  have hj : ∀ j, j < n → nowOf (wrHead (List.replicate (n * 64) 0) (fun _ => none) n 1 (hdB 1 1 0 1)) (fun _ => none) j = if j = 1 then hdB 1 1 0 1 else nouW 64 := fun j hj => by
    rw [nowOf_wrHead (List.length_replicate ..) (fun _ _ h => by cases h) (hdB_len _ _ _ _) hj, nowOf_new n j hj]
  refine ⟨by rw [hj _ (by omega)]; rfl, fun i hi hne hok => ?_, trivial, Nat.zero_le _, fun t _ ht => ?_, fun ys h => by cases h⟩
  · rw [hj i (by omega), if_neg (by omega), okH_nou] at hok
    cases hok
  · rw [hj _ (by have := Nat.mod_lt (0 + t) (show 0 < s by omega); omega), if_neg (by omega)]

set_option maxRecDepth 100000 in
set_option maxHeartbeats 1600000 in
theorem freshL_ok (z : Int) (w : World) (ht : Turns w) :
    Calls Tryz.prog 10 #[.int .i64 z] w fun e9 w' => ∃ g gf bp d m dur, e9 = .returned (.tuple #[.pointer (some ⟨g, 0, none⟩), .pointer (some ⟨bp, 0, none⟩)]) ∧ Kp (fun _ => False) w w' ∧ (w.heap.size ≤ g ∧ w.heap.size ≤ gf ∧ w.heap.size ≤ bp ∧ w.heap.size ≤ d ∧ w.heap.size ≤ m) ∧ Lg w' g bp d m gf (6 + m40 z) 0 1 1 0 1 0 0 [] dur (fun _ => none) := by
  have htl : (0 : Nat) < w.heap.size := World.block_lt_of_cell? _ _ (ht 0 (by decide))
  have HTl : Hid ((0 : Nat) < w.heap.size) := htl
  clear htl
  obtain ⟨h1, h2⟩ := m40_eq z
  have h3 := m40_lt z
  obtain ⟨c, hc⟩ : ∃ c, c = m40 z := ⟨_, rfl⟩
  rw [← hc] at h1 h2 h3 ⊢
  obtain ⟨n, hn⟩ : ∃ n, n = 8 + c := ⟨_, rfl⟩
  have HN : Hid (n = 8 + c ∧ c < 40) := ⟨hn, h3⟩
  have hwn : wrap64 (8 + (c : Int)) = (n : Int) := by unfold wrap64; omega
  have hwc : wrap64 (c : Int) = (c : Int) := by unfold wrap64; omega
  have HNw : Hid (Calls _ _ _ w _) := new_ok n w (by omega) (by omega)
  have HT : Hid (Turns w) := ht
  clear hc hn h3 ht
  go_enter Tryz.func10, Tryz.ntmps10
  go_wp2_with fail
  refine HNw.out.mono ?_
  rintro e9 w1 ⟨bp, d, m, rfl, k1, hb, hd, hm, p1⟩
  have HK1 : Hid (Kp (fun _ => False) w w1) := k1
  have hs : n = 2 + (6 + c) := by have := HN.out; omega
  have HO : Hid (Calls _ _ _ w1 _) := OpenNew_ok (s := 6 + c) p1 (by decide) hs (by omega) (fun i hi => nowOf_new n i hi) (fun j hj => k1.cellv (HT.out j hj) id)
  have HG : Hid (w.heap.size ≤ bp ∧ w.heap.size ≤ d ∧ w.heap.size ≤ m ∧ bp < w1.heap.size ∧ d < w1.heap.size ∧ m < w1.heap.size ∧ w.heap.size ≤ w1.heap.size) := ⟨hb, hd, hm, p1.lt, p1.row.lt, p1.mp.lt, k1.size⟩
  clear hb hd hm p1 k1 HNw h1 h2 hwc hwn hs
  go_wp2_with fail
  refine HO.out.mono ?_
  rintro e9 w2 ⟨g, gf, rfl, k2, p2, hg, hgf, l2⟩
  have HLf : Hid (Calls _ _ _ w2 _) := life_ok l2
  have HF : Hid (Kp (fun _ => False) w w2 ∧ (w.heap.size ≤ g ∧ w.heap.size ≤ gf ∧ w.heap.size ≤ bp ∧ w.heap.size ≤ d ∧ w.heap.size ≤ m) ∧ (g ≠ d ∧ g ≠ m ∧ bp ≠ g ∧ gf ≠ d ∧ gf ≠ m ∧ bp ≠ gf) ∧ Pt w2 bp d m n 0 (wrHead (List.replicate (n * 64) 0) (fun _ => none) n 1 (hdB 1 1 0 1)) (fun _ => none) ∧ Wl w2 g bp (6 + c) gf ⟨1, 1, 0, 1⟩ 0 0 (6 + c)) := by
    have := HG.out
    exact ⟨HK1.out.trans k2 (fun b hb9 e => by omega), ⟨by omega, by omega, by omega, by omega, by omega⟩, ⟨by omega, by omega, by omega, by omega, by omega, by omega⟩, p2, l2⟩
  clear k2 p2 hg hgf l2 HO
  go_wp2_with fail
  refine HLf.out.mono ?_
  rintro e9 w9 ⟨rfl, hw9⟩
  have hw8 := hw9.symm
  subst hw8
  clear hw9 HLf
  go_wp2
  go_ret2
  obtain ⟨f1, f2, f3, f4, f5⟩ := HF.out
  have hN := HN.out
  have hT := HTl.out
  have e8 : n = 2 + (6 + c) := by omega
  rw [e8] at f4
  have hLg : Lg w2 g bp d m gf (6 + c) 0 1 1 0 1 0 0 [] (wrHead (List.replicate ((2 + (6 + c)) * 64) 0) (fun _ => none) (2 + (6 + c)) 1 (hdB 1 1 0 1)) (fun _ => none) := ⟨f4, f5, logN_new rfl (by omega), DirtW.none _, Nat.le_refl _, rfl, by omega, by omega, ⟨by omega, by omega⟩, ⟨by omega, by omega⟩, ⟨by omega, by omega⟩, ⟨f3.1, f3.2.1, f3.2.2.1, f3.2.2.2.1, f3.2.2.2.2.1, f3.2.2.2.2.2, by omega, by omega, by omega, by omega⟩, Nat.le_refl _, fun _ _ => rfl⟩
  exact ⟨g, gf, bp, d, m, _, rfl, f1, f2, hLg⟩
end Go.Proofs.YtfmndffgmemgpaaGreatDoor

/- What the rows' frames share: how bytes come in, as lists that the walks take. -/
namespace Go.Proofs.YtfmndffgmemgpaaGreatDoor
open Go.ChangeShapes Go.WideShapes Go.ChangeAt Go.RowKit

theorem laidOut : laidOutB Tryz.prog = true := by kernel_rfl

theorem sized_bytes {H : Type} {ts : List TypeId} {ds : List (DataW H)} {j : Nat} {elems spare : List (DataW H)} (h : (DataW.weightsEach Tryz.prog ts ds).all (· ≤ reachBytes) = true) (ht : ts[j]? = some 34) (hd : ds[j]? = some (.slice elems spare)) :
    elems.length + spare.length ≤ 140737488355328 := by
  have hr : reachBytes ≤ 140737488355328 := by have := reachBytes_lt; omega
  have b2 : Tryz.prog.bytesOf 5 = 1 := by kernel_rfl
  have := sized_slice h ht hd Tryz.underlying34
  rw [b2] at this; omega

theorem rb_of_trod {H : Type} {enc : TypeId × Value → H} {W : World} {a : Option Addr} {len cap : Nat} {d : DataW H} {p : List MemPlace}
    (h : DataW.Trod enc Tryz.prog W 0 (fun _ => true) true 34 (.slice a len cap) d p)
    (hw : ∀ elems spare, d = .slice elems spare → elems.length + spare.length ≤ 140737488355328) : ∃ xs, Rb W a len xs ∧ len ≤ cap ∧ Hid (len ≤ 140737488355328) := by
  obtain ⟨fuel, hf⟩ := h
  rcases open_ints Tryz.underlying34 Tryz.underlying5 (by kernel_rfl) hf with ⟨hcs, _⟩ | ⟨x, l, c, zs, hcs, hxx, hl, hm, hz, hDx, hcell, hwz⟩
  · simp [Value.cells] at hcs
    obtain ⟨rfl, rfl, rfl⟩ := hcs
    exact ⟨[], Rb.nil _ _, Nat.le_refl _, Nat.zero_le _⟩
  · simp [Value.cells] at hcs
    obtain ⟨rfl, rfl, rfl⟩ := hcs
    have hz' : zs.length = cap := by simpa using hz
    have hd := (Prod.mk.inj hDx).1
    have hlen := hw _ _ hd
    simp only [lits, List.length_map, List.length_take, List.length_drop] at hlen
    refine ⟨(zs.take len).map Int.toNat, ⟨by rw [List.length_map, List.length_take]; omega, fun y hy => ?_, fun j hj => ?_⟩, hl, by show len ≤ _; omega⟩
    · obtain ⟨z, hzm, rfl⟩ := List.mem_map.1 hy
      have := bounds_u8 (hwz z (List.mem_of_mem_take hzm))
      omega
    · obtain ⟨b, off, spot⟩ := x
      have hc := hcell j (by omega)
      have hspot : spot = none := by
        have := World.cell?_spot (hcell 0 (by omega))
        simpa [Addr.add] using this
      subst hspot
      refine ⟨b, off, rfl, ?_⟩
      rw [show (⟨b, off, none⟩ : Addr).add j = ⟨b, off + j, none⟩ from by by_cases e : j = 0 <;> simp [Addr.add, e]] at hc
      rw [hc]
      have hj' : j < zs.length := by omega
      have e : zs.getD j 0 = zs[j] := by rw [List.getD_eq_getElem?_getD, List.getElem?_eq_getElem hj']; rfl
      have := bounds_u8 (hwz zs[j] (List.getElem_mem hj'))
      have e2 : ((zs.take len).map Int.toNat).getD j 0 = zs[j].toNat := by
        rw [List.getD_eq_getElem?_getD, List.getElem?_map, List.getElem?_take_of_lt (by omega), List.getElem?_eq_getElem hj']; rfl
      rw [e, e2, Int.toNat_of_nonneg this.1]
end Go.Proofs.YtfmndffgmemgpaaGreatDoor
