/- A log of a new plate, as the verifier makes it. -/
import Derived.Test.YtfmndffgmemgpaaDoorAx
namespace Go.Proofs.YtfmndffgmemgpaaDoor
set_option linter.unusedVariables false
set_option linter.unusedSimpArgs false
open Go.RowKit Go.Deep

def m40 (n : Int) : Nat := ((n % 18446744073709551616) % 40).toNat
theorem m40_lt (n : Int) : m40 n < 40 := by unfold m40; omega
theorem m40_eq (n : Int) : wrap64 ((IntKind.u64.wrap n).tmod 40) = (m40 n : Int) ∧ (IntKind.u64.wrap n).tmod 40 = (m40 n : Int) := by
  have e : IntKind.u64.wrap n = n % 18446744073709551616 := by simp [IntKind.wrap, IntKind.bits, IntKind.signed]
  rw [e, Int.tmod_eq_emod_of_nonneg (Int.emod_nonneg _ (by omega))]
  unfold m40 wrap64
  omega
theorem nowOf_new (n i : Nat) (hi : i < n) : nowOf (List.replicate (n * 64) 0) (fun _ => none) i = nouW 64 := by
  unfold nowOf
  rw [Option.getD_none, List.drop_replicate, List.take_replicate, Nat.min_eq_left (by omega)]

set_option maxRecDepth 100000 in
set_option maxHeartbeats 1600000 in
theorem fresh_ok (z : Int) (w : World) (ht : Turns w) :
    Calls Tryd.prog 5 #[.int .i64 z] w fun e9 w' => ∃ g gf bp d m dur, e9 = .returned (.tuple #[.pointer (some ⟨g, 0, none⟩), .pointer (some ⟨bp, 0, none⟩)]) ∧ Kp (fun _ => False) w w' ∧ (w.heap.size ≤ g ∧ w.heap.size ≤ gf ∧ w.heap.size ≤ bp ∧ w.heap.size ≤ d ∧ w.heap.size ≤ m) ∧ (g ≠ d ∧ g ≠ m ∧ bp ≠ g ∧ gf ≠ d ∧ gf ≠ m ∧ bp ≠ gf) ∧ Pt w' bp d m (8 + m40 z) 0 dur (fun _ => none) ∧ Wl w' g bp (6 + m40 z) gf ⟨1, 1, 0, 1⟩ 0 0 (6 + m40 z) := by
  obtain ⟨h1, h2⟩ := m40_eq z
  have h3 := m40_lt z
  obtain ⟨c, hc⟩ : ∃ c, c = m40 z := ⟨_, rfl⟩
  rw [← hc] at h1 h2 h3 ⊢
  obtain ⟨n, hn⟩ : ∃ n, n = 8 + c := ⟨_, rfl⟩
  have HN : Hid (n = 8 + c ∧ c < 40) := ⟨hn, h3⟩
  have hwn : wrap64 (8 + (c : Int)) = (n : Int) := by unfold wrap64; omega
  have hwc : wrap64 (c : Int) = (c : Int) := by unfold wrap64; omega
  have HNw : Hid (Calls _ _ _ w _) := new_ok n w (by omega) (by omega)
  have HT : Hid (Turns w) := ht
  rw [← hn]
  clear hc hn h3 ht
  go_enter Tryd.func5, Tryd.ntmps5
  go_wp2_with fail
  refine HNw.out.mono ?_
  rintro e9 w1 ⟨bp, d, m, rfl, k1, hb, hd, hm, p1⟩
  have HK1 : Hid (Kp (fun _ => False) w w1) := k1
  have hs : n = 2 + (6 + c) := by have := HN.out; omega
  have HO : Hid (Calls _ _ _ w1 _) := OpenNew_ok (s := 6 + c) p1 (by decide) hs (by omega) (fun i hi => nowOf_new n i hi) (fun j hj => k1.cellv (HT.out j hj) id)
  have HG : Hid (w.heap.size ≤ bp ∧ w.heap.size ≤ d ∧ w.heap.size ≤ m ∧ bp < w1.heap.size ∧ d < w1.heap.size ∧ m < w1.heap.size ∧ w.heap.size ≤ w1.heap.size) := ⟨hb, hd, hm, p1.lt, p1.row.lt, p1.mp.lt, k1.size⟩
  clear hb hd hm p1 k1 HNw h1 h2 hwc hwn hs
  go_wp2_with fail
  refine HO.out.mono ?_
  rintro e9 w2 ⟨g, gf, rfl, k2, p2, hg, hgf, l2⟩
  have HLf : Hid (Calls _ _ _ w2 _) := life_ok l2
  have HF : Hid (Kp (fun _ => False) w w2 ∧ (w.heap.size ≤ g ∧ w.heap.size ≤ gf ∧ w.heap.size ≤ bp ∧ w.heap.size ≤ d ∧ w.heap.size ≤ m) ∧ (g ≠ d ∧ g ≠ m ∧ bp ≠ g ∧ gf ≠ d ∧ gf ≠ m ∧ bp ≠ gf) ∧ Pt w2 bp d m n 0 (wrHead (List.replicate (n * 64) 0) (fun _ => none) n 1 (hdB 1 1 0 1)) (fun _ => none) ∧ Wl w2 g bp (6 + c) gf ⟨1, 1, 0, 1⟩ 0 0 (6 + c)) := by
    have := HG.out
    exact ⟨HK1.out.trans k2 (fun b hb9 e => by omega), ⟨by omega, by omega, by omega, by omega, by omega⟩, ⟨by omega, by omega, by omega, by omega, by omega, by omega⟩, p2, l2⟩
  clear k2 p2 hg hgf l2 HO
  go_wp2_with fail
  refine HLf.out.mono ?_
  rintro e9 w9 ⟨rfl, hw9⟩
  have hw8 := hw9.symm
  subst hw8
  clear hw9 HLf
  go_wp2
  go_ret2
  exact ⟨g, gf, bp, d, m, _, rfl, HF.out⟩
end Go.Proofs.YtfmndffgmemgpaaDoor
