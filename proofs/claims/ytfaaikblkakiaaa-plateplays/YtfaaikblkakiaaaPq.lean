/- The walk of a plate's Copy. -/
import Derived.Test.YtfaaikblkakiaaaPl4
import Derived.Deep.RegionHeld3
import Derived.Shelf.SlMaps.Clone
namespace Go.Proofs.Ytfaaikblkakiaaa
open Go.RowKit Go.Deep Go.Maps

set_option maxRecDepth 100000 in
set_option maxHeartbeats 800000 in
theorem sclone_any (a : Addr) (n c : Nat) (xs : List Nat) (w : World) (h : Rb w (some a) n xs) (hn : Hid (n ≤ 140737488355328)) :
    Calls Try.prog 36 #[.slice (some a) n c] w fun e w' => ∃ v, e = .returned v ∧ Kp (fun _ => False) w w' ∧ Ow w' w.heap.size v xs := by
  have hnn := bytes_not_nil a n c
  have hr := h.keep0 ((Kp.refl (fun _ => False) w).alloc (.cells #[] 5))
  go_enter Try.func36, Try.ntmps36
  go_wp2_with (at_builtin; go_must (refine wpList_append_bytes _ rfl _ _ rfl w.heap.size _ [] rfl (empty_own w) (some a) n c xs rfl hr (by have := hn.out; simp only [List.length_nil]; omega) (by simp) ?_); intro v' w3 hown' hk3 hblk3)
  go_ret
  refine ⟨_, rfl, Kp.trans ((Kp.refl _ _).alloc _) hk3 (fun b hb e => ?_), by simpa using hown'⟩
  have e' : some w.heap.size = some b := e
  have := Option.some.inj e'
  omega

set_option maxRecDepth 100000 in
set_option maxHeartbeats 800000 in
theorem mclone_ok (m n q : Nat) (T : Nat → Option (List Nat)) (w : World) (h : Mp w m n q T) :
    Calls Try.prog 37 #[.map (some m)] w fun e w' => e = .returned (.map (some w.heap.size)) ∧ Kp (fun _ => False) w w' ∧ w'.heap.size = w.heap.size + 1 ∧ Mp w' w.heap.size n q T := by
  obtain ⟨D, ⟨es, clock, hb, rest⟩, hDD⟩ := h
  have hq := fun w => run_eql_map_nil_sl (P := Try.prog) w 62 _ _ (some m) Try.underlying62
  have HR : Hid (Kp (fun _ => False) w (w.alloc (.map es clock)) ∧ (w.alloc (.map es clock)).heap.size = w.heap.size + 1 ∧ Mp (w.alloc (.map es clock)) w.heap.size n q T) :=
    ⟨(Kp.refl _ _).alloc _, by simp, D, ⟨es, clock, heap_alloc_new w _, rest⟩, hDD⟩
  clear hDD rest
  go_enter Try.func37, Try.ntmps37
  go_wp2
  rw [run_callFunc_extern Try.func54 (by kernel_rfl) (by kernel_rfl) (by kernel_rfl) (e := Extern.MapsClone.clone) (by kernel_rfl), run_maps_clone_sl w 62 hb]
  simp only [Result.andThen]
  rw [Oper.upon_value]
  go_wp2
  rw [run_typeAssert_map_sl _ 62 _ _ _ _ Try.underlying62]
  simp only [Result.andThen]
  rw [Oper.upon_value]
  go_wp2
  go_ret
  exact ⟨rfl, HR.out⟩

theorem Pt.allRb {w : World} {b d m n q : Nat} {dur : List Nat} {T : Nat → Option (List Nat)} (h : Pt w b d m n q dur T) : Rb w (some ⟨d, 0, none⟩) (n * 64) dur :=
  ⟨h.len, h.byte, fun j hj => ⟨d, 0, rfl, by rw [Nat.zero_add]; exact h.row.cell hj⟩⟩
theorem Dr.of_ow {w : World} {base n : Nat} {v : Value} {dur : List Nat} (h : Ow w base v dur) (hl : dur.length = n * 64) (hn : 1 ≤ n) : ∃ g cp, v = .slice (some ⟨g, 0, none⟩) (n * 64) cp ∧ n * 64 ≤ cp ∧ base ≤ g ∧ g < w.heap.size ∧ Dr w g n (fun j => dur.getD j 0) := by
  rcases h.2 with ⟨e1, e2⟩ | ⟨g, cap, cur, rfl, hb, hh, h1, h2, h3, h4⟩
  · omega
  · refine ⟨g, cap, by rw [hl], by omega, hb, (Array.getElem?_eq_some_iff.1 hh).1, cap, fun j => (cur[j]?).getD (.int .u8 0), by omega, cur, hh, by omega, fun j hj => ?_⟩
    dsimp only
    by_cases hjn : j < n * 64
    · rw [if_pos hjn]
      have h5 : (cur.toList.take (dur.length * 1))[j]? = (vl dur)[j]? := by rw [h4]
      rw [List.getElem?_take_of_lt (by omega), Array.getElem?_toList, vl_get (by omega)] at h5
      exact h5
    · rw [if_neg hjn, Array.getElem?_eq_getElem (by omega)]; rfl

set_option maxRecDepth 100000 in
set_option maxHeartbeats 1600000 in
theorem copy_ok {w : World} {b d m n q : Nat} {dur : List Nat} {T : Nat → Option (List Nat)} (h : Pt w b d m n q dur T) :
    Calls Try.prog 12 #[.pointer (some ⟨b, 0, none⟩)] w fun e w' => ∃ b' d' m', e = .returned (.pointer (some ⟨b', 0, none⟩)) ∧ Kp (fun _ => False) w w' ∧ w.heap.size ≤ b' ∧ w.heap.size ≤ d' ∧ w.heap.size ≤ m' ∧ Pt w' b' d' m' n q dur T := by
  have H : Hid (Calls _ _ _ w _) := made_ok h
  have c0 := h.c0
  obtain ⟨cp, hcp, c1⟩ := h.c1
  have c2 := h.c2
  have c3 := h.c3
  have hn2 : (n : Int) ≤ 8192 := by have := h.n2; omega
  have hn1 := h.n1
  have H1 : Hid (∀ w', Kp (fun _ => False) w w' → ∀ c, Calls _ _ #[.slice _ _ c] w' _) := fun w' k c => sclone_any ⟨d, 0, none⟩ (n * 64) c dur w' (h.allRb.keep0 k) (show n * 64 ≤ 140737488355328 by omega)
  have H2 : Hid (∀ w', Kp (fun _ => False) w w' → Calls _ _ _ w' _) := fun w' k => mclone_ok m n q T w' (h.mp.keep k id)
  have HLn : Hid (dur.length = n * 64) := h.len
  have HBy : Hid (∀ x ∈ dur, x < 256) := h.byte
  clear h
  go_enter Try.func12, Try.ntmps12
  go_wp2_with (go_at_call 35; refine H.out.mono ?_; rintro e w' ⟨rfl, hw⟩; obtain rfl := hw.symm)
  have kd : Kp (fun _ => False) w w.drew := (Kp.refl _ _).drew
  go_region_held3 (fun x => x.cell? ⟨b, 0, none⟩ = some (.int .i64 (n : Int)) ∧ x.cell? ⟨b, 1, none⟩ = some (.slice (some ⟨d, 0, none⟩) (n * 64) cp) ∧ x.cell? ⟨b, 2, none⟩ = some (.map (some m)) ∧ x.cell? ⟨b, 3, none⟩ = some (.bool false)) (go_keep)
    (first
      | (go_at_call 36; refine (H1.out _ kd _).mono ?_; rintro e w1 ⟨v1, rfl, k1, o1⟩; obtain ⟨g1, cp1, rfl, hc1, hg1, hl1, hD1⟩ := Dr.of_ow o1 HLn.out hn1; have k01 := kd.trans k1 (fun _ _ e => e); have x0 := k01.cellv c0 id; have x1 := k01.cellv c1 id; have x2 := k01.cellv c2 id; have x3 := k01.cellv c3 id)
      | (go_at_call 37; refine (H2.out _ k01).mono ?_; rintro e w2 ⟨rfl, k2, z2, hm2⟩; have k02 := k01.trans k2 (fun _ _ e => e); have y0 := k02.cellv c0 id; have y1 := k02.cellv c1 id; have y2 := k02.cellv c2 id; have y3 := k02.cellv c3 id))
  clear x0 x1 x2 x3 y0 y1 y2 y3
  have HZ2 : Hid (w2.heap.size = w1.heap.size + 1) := z2
  clear z2
  go_wp2
  go_ret
  obtain ⟨cs, hcs⟩ : ∃ cs : Array Value, cs = #[.int .i64 (n : Int), .slice (some ⟨g1, 0, none⟩) (n * 64) cp1, .map (some w1.heap.size), .bool false] := ⟨_, rfl⟩
  obtain ⟨w3, hw3⟩ : ∃ x, x = w2.alloc (.cells cs 64) := ⟨_, rfl⟩
  rw [← hcs, ← hw3]
  have k3 : Kp (fun _ => False) w2 w3 := by rw [hw3]; exact (Kp.refl _ _).alloc _
  have hh := heap_alloc_new w2 (.cells cs 64)
  rw [← hw3, HZ2.out] at hh
  have cc : ∀ j v, cs[j]? = some v → w3.cell? ⟨w1.heap.size + 1, j, none⟩ = some v := fun j v hv => by
    rw [cell_of_row _ _ j cs _ (0, 0) hh]
    exact hv
  have ff : ∀ j, w3.frozen? ⟨w1.heap.size + 1, j, none⟩ = false := fun j => frozen_of_row _ _ _ cs _ hh
  have hz := k01.size
  have hgw : w.heap.size ≤ g1 := hg1
  refine ⟨_, g1, w1.heap.size, rfl, k02.trans k3 (fun _ _ e => e), by omega, hgw, hz, cc 0 _ (by rw [hcs]; rfl), ⟨cp1, hc1, cc 1 _ (by rw [hcs]; rfl)⟩, cc 2 _ (by rw [hcs]; rfl), cc 3 _ (by rw [hcs]; rfl), ff, (hD1.keep k2 id).keep k3 id, HLn.out, HBy.out, hm2.keep k3 id, by omega, by omega, by omega, hn1, by omega⟩
end Go.Proofs.Ytfaaikblkakiaaa
