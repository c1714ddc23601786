/- The document's list of shards that wait: Retire of one that waits already. -/
import Derived.Test.YtnpaoppfhffoiaaKf
namespace Go.Proofs.Ytnpaoppfhffoiaa
set_option linter.unusedVariables false
set_option linter.unusedSimpArgs false
open Go.RowKit Go.Deep Go.Maps Go.Shelf Go.Lib Go.Sort

set_option maxRecDepth 100000 in
set_option maxHeartbeats 3200000 in
theorem xretire_old {w : World} {base t : Nat} {l : List Wt} (h : Xl w base t l) (pa pb now : Int) (hin : (pa, pb) ∈ l.map key) (hl : l.length ≤ 100) :
    Calls Try.prog 11 #[.pointer (some ⟨t, 0, none⟩), .int .i64 pa, .int .i64 pb, .int .i64 now] w fun e w' => e = .returned (.tuple #[]) ∧ Kp (fun _ => False) w w' := by
  have HIN : Hid ((pa, pb) ∈ l.map key) := hin
  obtain ⟨v, ht, hr, hne, hbt⟩ := h
  obtain ⟨p1, c1, rfl, q1⟩ := Xr.ofOwn hr
  obtain ⟨n, hn⟩ : ∃ n, n = l.length := ⟨_, rfl⟩
  have Q1 : Hid (∀ j, j < n → ∃ g o, p1 = some ⟨g, o, none⟩ ∧ w.cell? ⟨g, o + j * 3, none⟩ = some (.int .i64 (l.getD j wt0).b) ∧ w.cell? ⟨g, o + j * 3 + 1, none⟩ = some (.int .i64 (l.getD j wt0).i) ∧ w.cell? ⟨g, o + j * 3 + 2, none⟩ = some (.int .i64 (l.getD j wt0).t)) := fun j hj => by
    obtain ⟨g, o, e, _, c1, c2, c3⟩ := q1 j (by omega)
    exact ⟨g, o, e, c1, c2, c3⟩
  have HN : Hid (n = l.length ∧ n ≤ 100) := ⟨hn, by omega⟩
  have hc := ht.cell (j := 0) rfl
  rw [← hn] at hc
  clear q1 hn hl hr hne hbt ht hin
  have hn9 : n ≤ 100 := HN.out.2
  go_enter Try.func11, Try.ntmps11
  go_wp2
  go_loopg [15] n (fun gk i wr => ∃ (k : Nat), k ≤ n ∧ gk = n - k ∧ i = .int .i64 k ∧ Hid (Kp (fun _ => False) w wr ∧ (pa, pb) ∉ (l.take k).map key))
  case atStart => exact ⟨0, Nat.zero_le _, rfl, rfl, Kp.refl _ _, by simp⟩
  case round =>
    obtain ⟨k, hk, rfl, rfl, HS⟩ := hrel
    by_cases hlt : (k : Int) < (n : Int)
    · obtain ⟨g1, o1, rfl, a1, b1, d1⟩ := Q1.out k (by omega)
      have hs := HS.out
      have a2 := hs.1.cellv a1 id
      have b2 := hs.1.cellv b1 id
      have d2 := hs.1.cellv d1 id
      have HKK : Hid (k < n) := by show k < n; omega
      have htk : (l.take (k + 1)).map key = (l.take k).map key ++ [key (l.getD k wt0)] := by
        have hkl : k < l.length := by have := HN.out; omega
        rw [List.take_add_one, List.getElem?_eq_getElem hkl, List.getD_eq_getElem?_getD, List.getElem?_eq_getElem hkl, List.map_append]
        rfl
      obtain ⟨x, hx⟩ : ∃ x, x = l.getD k wt0 := ⟨_, rfl⟩
      rw [← hx] at a2 b2 d2 htk
      obtain ⟨xa, xb, xt⟩ := x
      dsimp only at a2 b2 d2
      have hxl : Lv (wr.alloc (.cells #[.int .i64 xa, .int .i64 xb, .int .i64 xt] 67)) wr.heap.size [.int .i64 xa, .int .i64 xb, .int .i64 xt] := Lv.new wr _ _
      have px0 := hxl.cell (j := 0) rfl
      have px1 := hxl.cell (j := 1) rfl
      have px2 := hxl.cell (j := 2) rfl
      have HXO : Hid (Kp (fun _ => False) w (wr.alloc (.cells #[.int .i64 xa, .int .i64 xb, .int .i64 xt] 67))) := hs.1.alloc _
      have HTK : Hid ((l.take (k + 1)).map key = (l.take k).map key ++ [(xa, xb)]) := htk
      have hnq := eqlP2 xa xb pa pb
      have hgd := fun x y => gdP2 .eql x y xa xb pa pb
      clear hs a1 b1 d1 htk hxl hx
      by_cases he : xa = pa ∧ xb = pb
      · have hbv : ((xa == pa) && (xb == pb)) = true := by simp [he.1, he.2]
        rw [hbv] at hnq
        clear hbv he
        go_wp2
        refine bodyPost_ret (results_none rfl _ _ _) rfl ?_
        exact ⟨rfl, HXO.out⟩
      · have hbv : ((xa == pa) && (xb == pb)) = false := by simp; omega
        rw [hbv] at hnq
        have HF : Hid (Kp (fun _ => False) w (wr.alloc (.cells #[.int .i64 xa, .int .i64 xb, .int .i64 xt] 67)) ∧ (pa, pb) ∉ (l.take (k + 1)).map key) := by
          refine ⟨HXO.out, fun hm => ?_⟩
          rw [HTK.out, List.mem_append] at hm
          rcases hm with hm | hm
          · exact HS.out.2 hm
          · rw [List.mem_singleton] at hm
            injection hm with e1 e2
            exact he ⟨e1.symm, e2.symm⟩
        clear hbv he
        go_wp2
        go_roundg (n - (k + 1))
        case rel => exact ⟨k + 1, by have := HKK.out; omega, rfl, by go_num, HF⟩
        case measure => have := HKK.out; omega
    · have hkn : k = n := by omega
      have hs := HS.out
      rw [List.take_of_length_le (by have := HN.out; omega)] at hs
      exact absurd HIN.out hs.2
end Go.Proofs.Ytnpaoppfhffoiaa
