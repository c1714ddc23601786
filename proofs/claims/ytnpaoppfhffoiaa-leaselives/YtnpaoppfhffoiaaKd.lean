/- The document's list of shards that wait: All. -/
import Derived.Test.YtnpaoppfhffoiaaKc
namespace Go.Proofs.Ytnpaoppfhffoiaa
set_option linter.unusedVariables false
set_option linter.unusedSimpArgs false
open Go.RowKit Go.Deep Go.Maps Go.Shelf Go.Lib Go.Sort

/-- v is a row of shards that wait -/
def Xr (w : World) (Z : Nat → Prop) (v : Value) (l : List Wt) : Prop := ∃ p cap, v = .slice p l.length cap ∧ ∀ j, j < l.length → ∃ g o, p = some ⟨g, o, none⟩ ∧ Z g ∧ w.cell? ⟨g, o + j * 3, none⟩ = some (.int .i64 (l.getD j wt0).b) ∧ w.cell? ⟨g, o + j * 3 + 1, none⟩ = some (.int .i64 (l.getD j wt0).i) ∧ w.cell? ⟨g, o + j * 3 + 2, none⟩ = some (.int .i64 (l.getD j wt0).t)
theorem Xr.keep {S Z : Nat → Prop} {w w' : World} {v : Value} {l : List Wt} (h : Xr w Z v l) (k : Kp S w w') (hS : ∀ b, Z b → b < w.heap.size → ¬ S b) : Xr w' Z v l := by
  obtain ⟨p, cap, e, hc⟩ := h
  refine ⟨p, cap, e, fun j hj => ?_⟩
  obtain ⟨g, o, e2, hz, c1, c2, c3⟩ := hc j hj
  have hg := World.block_lt_of_cell? w _ c1
  exact ⟨g, o, e2, hz, k.cellv c1 (hS g hz hg), k.cellv c2 (hS g hz hg), k.cellv c3 (hS g hz hg)⟩

set_option maxRecDepth 100000 in
set_option maxHeartbeats 3200000 in
theorem xall_ok {w : World} {Z : Nat → Prop} {t : Nat} {v : Value} {l : List Wt} (hc : w.cell? ⟨t, 0, none⟩ = some v) (h : Xr w Z v l) (hd : (l.map key).Nodup) (hl : l.length ≤ 100) :
    Calls Try.prog 18 #[.pointer (some ⟨t, 0, none⟩)] w fun e w' => ∃ rv, e = .returned rv ∧ Kp (fun _ => False) w w' ∧ w'.ownsRow w.heap.size 39 2 rv (srtP (l.map key)).length (pflat (srtP (l.map key))) := by
  obtain ⟨p1, c1, rfl, q1⟩ := h
  obtain ⟨n, hn⟩ : ∃ n, n = l.length := ⟨_, rfl⟩
  have Q1 : Hid (∀ j, j < n → ∃ g o, p1 = some ⟨g, o, none⟩ ∧ w.cell? ⟨g, o + j * 3, none⟩ = some (.int .i64 (l.getD j wt0).b) ∧ w.cell? ⟨g, o + j * 3 + 1, none⟩ = some (.int .i64 (l.getD j wt0).i) ∧ w.cell? ⟨g, o + j * 3 + 2, none⟩ = some (.int .i64 (l.getD j wt0).t)) := fun j hj => by
    obtain ⟨g, o, e, _, c1, c2, c3⟩ := q1 j (by omega)
    exact ⟨g, o, e, c1, c2, c3⟩
  have HN : Hid (n = l.length ∧ n ≤ 100) := ⟨hn, by omega⟩
  have HD : Hid ((l.map key).Nodup) := hd
  rw [← hn] at hc
  clear q1 hn hl hd
  have hn9 : n ≤ 100 := HN.out.2
  go_enter Try.func18, Try.ntmps18
  go_wp2
  go_loopg [3, 11] n (fun gk dx i wr => ∃ (k : Nat) (dv : Value), k ≤ n ∧ gk = n - k ∧ dx = dv ∧ i = .int .i64 k ∧ Hid (Kp (fun _ => False) w wr ∧ wr.ownsRow w.heap.size 39 2 dv (srtP ((l.take k).map key)).length (pflat (srtP ((l.take k).map key)))))
  case atStart => exact ⟨0, _, Nat.zero_le _, rfl, rfl, rfl, Kp.refl _ _, by simpa [srtP, pflat] using World.ownsRow_nil _ _ _ _⟩
  case round =>
    obtain ⟨k, dv, hk, rfl, hdx, rfl, HS⟩ := hrel
    obtain rfl := hdx.symm
    clear hdx
    by_cases hlt : (k : Int) < (n : Int)
    · obtain ⟨g1, o1, rfl, a1, b1, d1⟩ := Q1.out k (by omega)
      have hs := HS.out
      have a2 := hs.1.cellv a1 id
      have b2 := hs.1.cellv b1 id
      have d2 := hs.1.cellv d1 id
      have HKK : Hid (k < n) := by show k < n; omega
      have htk : (l.take (k + 1)).map key = (l.take k).map key ++ [key (l.getD k wt0)] := by
        have hkl : k < l.length := by have := HN.out; omega
        rw [List.take_add_one, List.getElem?_eq_getElem hkl, List.getD_eq_getElem?_getD, List.getElem?_eq_getElem hkl, List.map_append]
        rfl
      have hnd : ((l.take (k + 1)).map key).Nodup := by
        have h1 := HD.out
        rw [← List.take_append_drop (k + 1) l, List.map_append, List.nodup_append] at h1
        exact h1.1
      obtain ⟨x, hx⟩ : ∃ x, x = l.getD k wt0 := ⟨_, rfl⟩
      rw [← hx] at a2 b2 d2 htk
      have hps : pairsP (srtP ((l.take k).map key)) (x.b, x.i) = srtP ((l.take (k + 1)).map key) := by
        rw [htk]
        rw [htk, List.nodup_append] at hnd
        exact pairs_srt hnd.1 (fun hm => hnd.2.2 _ hm _ (List.mem_singleton.2 rfl) rfl)
      obtain ⟨xa, xb, xt⟩ := x
      dsimp only at a2 b2 d2 hps
      have kx : Kp (fun _ => False) wr (wr.alloc (.cells #[.int .i64 xa, .int .i64 xb, .int .i64 xt] 67)) := (Kp.refl _ _).alloc _
      have hxl : Lv (wr.alloc (.cells #[.int .i64 xa, .int .i64 xb, .int .i64 xt] 67)) wr.heap.size [.int .i64 xa, .int .i64 xb, .int .i64 xt] := Lv.new wr _ _
      have HP : Hid (Calls _ _ _ _ _) := pairs_ok (((Pr.ofOwn hs.2).keep kx (fun _ _ _ e => e))) xa xb (by rw [srtP_len, List.length_map, List.length_take]; have := HN.out; omega)
      rw [hps] at HP
      have px0 := hxl.cell (j := 0) rfl
      have px1 := hxl.cell (j := 1) rfl
      have HKX : Hid (Kp (fun _ => False) w (wr.alloc (.cells #[.int .i64 xa, .int .i64 xb, .int .i64 xt] 67))) := hs.1.alloc _
      clear hs a1 b1 d1 htk hnd hps kx hxl hx
      go_wp2_with (go_at_call 37; refine HP.out.mono ?_; rintro e w5 ⟨v5, rfl, k5, o5⟩)
      have HF : Hid (_ ∧ _) := ⟨HKX.out.trans k5 (fun _ _ e => e), ownsRow_base o5 HKX.out.size⟩
      clear HP
      go_roundg (n - (k + 1))
      case rel => exact ⟨k + 1, v5, by have := HKK.out; omega, rfl, rfl, by go_num, HF⟩
      case measure => have := HKK.out; omega
    · have hkn : k = n := by omega
      go_wp2
      go_ret
      have hs := HS.out
      rw [List.take_of_length_le (by have := HN.out; omega)] at hs
      exact ⟨dv, rfl, hs.1, hs.2⟩
end Go.Proofs.Ytnpaoppfhffoiaa
