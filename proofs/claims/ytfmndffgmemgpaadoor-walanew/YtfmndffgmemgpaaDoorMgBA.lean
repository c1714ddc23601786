/- Texts of this proof, joined: Fe2, St. -/
import Derived.Test.YtfmndffgmemgpaaDoorMgAA
/- The walks of bytes.Equal, where both are the same, and of the verifier's Spoil. -/
namespace Go.Proofs.YtfmndffgmemgpaaDoor
open Go.RowKit Go.Deep

set_option maxRecDepth 100000 in
set_option maxHeartbeats 800000 in
theorem bytesEqual_run (v1 v2 : Value) (b : ByteArray) (w : World) (h1 : (convert 28 9 v1).run Tryd.prog w = .ok (.string b) w) (h2 : (convert 28 9 v2).run Tryd.prog w = .ok (.string b) w) :
    Calls Tryd.prog 28 #[v1, v2] w fun e w' => e = .returned (.bool true) ∧ w' = w := by
  go_enter Tryd.func28, Tryd.ntmps28
  go_wp2
  go_ret
  exact ⟨rfl, rfl⟩
theorem equal_same (p1 p2 : Option Addr) (n1 n2 c1 c2 : Nat) (xs : List Nat) (w : World) (h1 : Rb w p1 n1 xs) (h2 : Rb w p2 n2 xs) :
    Calls Tryd.prog 28 #[.slice p1 n1 c1, .slice p2 n2 c2] w fun e w' => e = .returned (.bool true) ∧ w' = w :=
  bytesEqual_run _ _ _ w (convert_bytes p1 n1 c1 xs w h1) (convert_bytes p2 n2 c2 xs w h2)

/-- bytes that may be written over: nothing, or a row among the blocks from base on, none of them t -/
def Wt (w : World) (base t : Nat) (v : Value) : Prop := ∃ p n c, v = .slice p n c ∧ n ≤ 1000000000000000 ∧ (0 < n → ∃ g cap f, p = some ⟨g, 0, none⟩ ∧ base ≤ g ∧ g ≠ t ∧ n ≤ cap ∧ w.rowIs g 5 cap f ∧ ∀ j, j < n → ∃ z : Int, f j = .int .u8 z)
theorem Ow.wt {w : World} {base t : Nat} {v : Value} {xs : List Nat} (h : Ow w base v xs) (hl : xs.length ≤ 1000000000000000) (ht : ∀ g, v.ownBlock = some g → g ≠ t) : Wt w base t v := by
  rcases h.2 with ⟨rfl, h0⟩ | ⟨g, cap, cur, rfl, hb, hh, hn, _, hcs, htk⟩
  · exact ⟨none, 0, 0, rfl, by omega, fun h => by omega⟩
  · refine ⟨_, _, cap, rfl, hl, fun _ => ⟨g, cap, fun j => cur.getD j (.int .u8 0), rfl, hb, ht g rfl, hn, ⟨cur, hh, by omega, fun i hi => ?_⟩, fun j hj => ⟨((xs.getD j 0 : Nat) : Int), ?_⟩⟩⟩
    · show cur[i]? = some (cur.getD i (.int .u8 0))
      rw [Array.getD_eq_getD_getElem?, Array.getElem?_eq_getElem (by omega)]; rfl
    · have h1 : (cur.toList.take (xs.length * 1))[j]? = some (.int .u8 ((xs.getD j 0 : Nat) : Int)) := by rw [htk]; exact vl_get hj
      rw [List.getElem?_take_of_lt (by omega), Array.getElem?_toList] at h1
      show cur.getD j (.int .u8 0) = _
      rw [Array.getD_eq_getD_getElem?, h1]; rfl
theorem Wt.keep {w w' : World} {base t : Nat} {v : Value} (h : Wt w base t v) {g : Nat} {cap : Nat} {f : Nat → Value} (k : Kp (fun b => b = g) w w') (hr : w'.rowIs g 5 cap f) (hf : ∀ cap' f', w.rowIs g 5 cap' f' → cap' = cap ∧ ∀ j, j < cap → (∃ z : Int, f' j = .int .u8 z) → ∃ z : Int, f j = .int .u8 z) : Wt w' base t v := by
  obtain ⟨p, n, c, rfl, hn, h⟩ := h
  refine ⟨p, n, c, rfl, hn, fun h0 => ?_⟩
  obtain ⟨g', cap', f', rfl, hb, ht, hc, hR, hz⟩ := h h0
  by_cases e : g' = g
  · subst e
    obtain ⟨rfl, h2⟩ := hf _ _ hR
    exact ⟨g', cap', f, rfl, hb, ht, hc, hr, fun j hj => h2 j (by omega) (hz j hj)⟩
  · exact ⟨g', cap', f', rfl, hb, ht, hc, k.row hR e, hz⟩

end Go.Proofs.YtfmndffgmemgpaaDoor

/- The walk of SameTexts of the same. -/
namespace Go.Proofs.YtfmndffgmemgpaaDoor
open Go.RowKit Go.Deep

/-- texts, as they lie: row t, text r at place r -/
def Rt (w : World) (t n : Nat) (N : Nat → List Nat) : Prop := ∃ (cp : Nat) (V : Nat → Value), n ≤ cp ∧ w.rowIs t 28 cp V ∧ ∀ r, r < n → ∃ p k c, V r = .slice p k c ∧ Rb w p k (N r)

set_option maxRecDepth 100000 in
set_option maxHeartbeats 800000 in
theorem same_texts (t1 t2 n c1 c2 : Nat) (N : Nat → List Nat) (w : World) (h1 : Rt w t1 n N) (h2 : Rt w t2 n N) (hn : (n : Int) ≤ 1000000) :
    Calls Tryd.prog 27 #[.slice (some ⟨t1, 0, none⟩) n c1, .slice (some ⟨t2, 0, none⟩) n c2, .func (.func 28) #[] #[]] w fun e w' => e = .returned (.bool true) ∧ w' = w := by
  obtain ⟨cp1, V1, hc1, r1, e1⟩ := h1
  obtain ⟨cp2, V2, hc2, r2, e2⟩ := h2
  have HE1 : Hid _ := e1
  have HE2 : Hid _ := e2
  clear e1 e2
  go_enter Tryd.func27, Tryd.ntmps27
  go_wp2
  go_loopg [17] n (fun gk x wr => ∃ k : Nat, k ≤ n ∧ gk = n - k ∧ x = .int .i64 k ∧ wr = w)
  case atStart => exact ⟨0, Nat.zero_le _, rfl, rfl, rfl⟩
  case round =>
    obtain ⟨k, hk, rfl, rfl, rfl⟩ := hrel
    by_cases hlt : (k : Int) < (n : Int)
    · obtain ⟨p1, k1, d1, v1, b1⟩ := HE1.out k (by omega)
      obtain ⟨p2, k2, d2, v2, b2⟩ := HE2.out k (by omega)
      have x1 := r1.cell (i := k) (by omega)
      have x2 := r2.cell (i := k) (by omega)
      rw [v1] at x1
      rw [v2] at x2
      have HEq : Hid (Calls _ _ _ wr _) := equal_same p1 p2 k1 k2 d1 d2 _ wr b1 b2
      clear v1 v2 b1 b2 r1 r2 HE1 HE2
      go_wp2_with (go_at_call 28; refine HEq.out.mono ?_; rintro e w' ⟨rfl, hw⟩; obtain rfl := hw.symm)
      go_roundg (n - (k + 1))
      case rel => exact ⟨k + 1, by omega, rfl, by go_num, rfl⟩
      case measure => omega
    · clear r1 r2 HE1 HE2
      go_wp2
      go_ret
      exact ⟨rfl, rfl⟩

set_option maxRecDepth 100000 in
set_option maxHeartbeats 800000 in
theorem sameTexts_ok (t1 t2 n c1 c2 : Nat) (N : Nat → List Nat) (w : World) (h1 : Rt w t1 n N) (h2 : Rt w t2 n N) (hn : (n : Int) ≤ 1000000) :
    Calls Tryd.prog 11 #[.slice (some ⟨t1, 0, none⟩) n c1, .slice (some ⟨t2, 0, none⟩) n c2] w fun e w' => e = .returned (.bool true) ∧ w' = w := by
  have H : Hid (Calls _ _ _ w _) := same_texts t1 t2 n c1 c2 N w h1 h2 hn
  clear h1 h2
  go_enter Tryd.func11, Tryd.ntmps11
  go_wp2_with (go_at_call 27; refine H.out.mono ?_; rintro e w' ⟨rfl, hw⟩; obtain rfl := hw.symm)
  go_ret
  exact ⟨rfl, rfl⟩
end Go.Proofs.YtfmndffgmemgpaaDoor
