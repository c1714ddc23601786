/- The walks of bytes.Equal, where both are the same, and of the verifier's Spoil. -/
import Derived.Test.YtmooddbhcccicaaGreatDoorKb
namespace Go.Proofs.YtmooddbhcccicaaGreatDoor
open Go.RowKit Go.Deep

set_option maxRecDepth 100000 in
set_option maxHeartbeats 800000 in
theorem bytesEqual_run (v1 v2 : Value) (b : ByteArray) (w : World) (h1 : (convert 34 9 v1).run Tryz.prog w = .ok (.string b) w) (h2 : (convert 34 9 v2).run Tryz.prog w = .ok (.string b) w) :
    Calls Tryz.prog 20 #[v1, v2] w fun e w' => e = .returned (.bool true) ∧ w' = w := by
  go_enter Tryz.func20, Tryz.ntmps20
  go_wp2
  go_ret
  exact ⟨rfl, rfl⟩
theorem equal_same (p1 p2 : Option Addr) (n1 n2 c1 c2 : Nat) (xs : List Nat) (w : World) (h1 : Rb w p1 n1 xs) (h2 : Rb w p2 n2 xs) :
    Calls Tryz.prog 20 #[.slice p1 n1 c1, .slice p2 n2 c2] w fun e w' => e = .returned (.bool true) ∧ w' = w :=
  bytesEqual_run _ _ _ w (convert_bytes p1 n1 c1 xs w h1) (convert_bytes p2 n2 c2 xs w h2)

/-- bytes that may be written over: nothing, or a row among the blocks from base on, none of them t -/
def Wt (w : World) (base t : Nat) (v : Value) : Prop := ∃ p n c, v = .slice p n c ∧ n ≤ 1000000000000000 ∧ (0 < n → ∃ g cap f, p = some ⟨g, 0, none⟩ ∧ base ≤ g ∧ g ≠ t ∧ n ≤ cap ∧ w.rowIs g 5 cap f ∧ ∀ j, j < n → ∃ z : Int, f j = .int .u8 z)
theorem Ow.wt {w : World} {base t : Nat} {v : Value} {xs : List Nat} (h : Ow w base v xs) (hl : xs.length ≤ 1000000000000000) (ht : ∀ g, v.ownBlock = some g → g ≠ t) : Wt w base t v := by
  rcases h.2 with ⟨rfl, h0⟩ | ⟨g, cap, cur, rfl, hb, hh, hn, _, hcs, htk⟩
  · exact ⟨none, 0, 0, rfl, by omega, fun h => by omega⟩
  · refine ⟨_, _, cap, rfl, hl, fun _ => ⟨g, cap, fun j => cur.getD j (.int .u8 0), rfl, hb, ht g rfl, hn, ⟨cur, hh, by omega, fun i hi => ?_⟩, fun j hj => ⟨((xs.getD j 0 : Nat) : Int), ?_⟩⟩⟩
    · show cur[i]? = some (cur.getD i (.int .u8 0))
      rw [Array.getD_eq_getD_getElem?, Array.getElem?_eq_getElem (by omega)]; rfl
    · have h1 : (cur.toList.take (xs.length * 1))[j]? = some (.int .u8 ((xs.getD j 0 : Nat) : Int)) := by rw [htk]; exact vl_get hj
      rw [List.getElem?_take_of_lt (by omega), Array.getElem?_toList] at h1
      show cur.getD j (.int .u8 0) = _
      rw [Array.getD_eq_getD_getElem?, h1]; rfl
theorem Wt.keep {w w' : World} {base t : Nat} {v : Value} (h : Wt w base t v) {g : Nat} {cap : Nat} {f : Nat → Value} (k : Kp (fun b => b = g) w w') (hr : w'.rowIs g 5 cap f) (hf : ∀ cap' f', w.rowIs g 5 cap' f' → cap' = cap ∧ ∀ j, j < cap → (∃ z : Int, f' j = .int .u8 z) → ∃ z : Int, f j = .int .u8 z) : Wt w' base t v := by
  obtain ⟨p, n, c, rfl, hn, h⟩ := h
  refine ⟨p, n, c, rfl, hn, fun h0 => ?_⟩
  obtain ⟨g', cap', f', rfl, hb, ht, hc, hR, hz⟩ := h h0
  by_cases e : g' = g
  · subst e
    obtain ⟨rfl, h2⟩ := hf _ _ hR
    exact ⟨g', cap', f, rfl, hb, ht, hc, hr, fun j hj => h2 j (by omega) (hz j hj)⟩
  · exact ⟨g', cap', f', rfl, hb, ht, hc, k.row hR e, hz⟩

set_option maxRecDepth 100000 in
set_option maxHeartbeats 1600000 in
theorem spoil_any (base t R cap : Nat) (V : Nat → Value) (w : World) (htop : w.rowIs t 34 R V) (hV : ∀ i, i < R → Wt w base t (V i)) (hR : (R : Int) ≤ 1000) :
    Calls Tryz.prog 36 #[.slice (some ⟨t, 0, none⟩) R cap] w fun e w' => e = .returned (.tuple #[]) ∧ Kp (fun b => base ≤ b) w w' := by
  go_enter Tryz.func36, Tryz.ntmps36
  go_wp2
  go_loopg [7] R (fun gk i wr => ∃ r : Nat, r ≤ R ∧ gk = R - r ∧ i = .int .i64 r ∧ Kp (fun b => base ≤ b) w wr ∧ wr.rowIs t 34 R V ∧ Hid (∀ i, i < R → Wt wr base t (V i)))
  case atStart => exact ⟨0, Nat.zero_le _, rfl, rfl, Kp.refl _ _, htop, hV⟩
  case round =>
    obtain ⟨r, hr, rfl, rfl, hK, hT, HW⟩ := hrel
    obtain ⟨wr0, rfl⟩ : ∃ x, x = wr := ⟨_, rfl⟩
    clear hV htop
    by_cases hlt : (r : Int) < (R : Int)
    · have e1 := hT.cell (i := r) (by omega)
      obtain ⟨p, n, c, hv, hn, hg⟩ := HW.out r (by omega)
      rw [hv] at e1
      clear hv
      have hn' : (n : Int) ≤ 1000000000000000 := by omega
      by_cases h0 : 0 < n
      · obtain ⟨g, cp, f0, rfl, hb, hgt, hcp, hr0, hz0⟩ := hg h0
        go_wp2
        go_loopg [13] n (fun gk i wq => ∃ (k : Nat) (f : Nat → Value), k ≤ n ∧ gk = n - k ∧ i = .int .i64 k ∧ Kp (fun b => b = g) wr0 wq ∧ Hid (∀ j, (∃ z : Int, f0 j = .int .u8 z) → ∃ z : Int, f j = .int .u8 z) ∧ wq.rowIs g 5 cp f)
        case atStart => exact ⟨0, f0, Nat.zero_le _, rfl, rfl, Kp.refl _ _, fun _ h => h, hr0⟩
        case round =>
          obtain ⟨k, f, hk, rfl, rfl, hKq, hf, hRq⟩ := hrel
          by_cases hlk : (k : Int) < (n : Int)
          · have f1 := hRq.cell (i := k) (by omega)
            have f2 := hRq.frozen k
            obtain ⟨z, hz⟩ := hf.out k (hz0 k (by omega))
            rw [hz] at f1
            clear hz hr0 hz0 hT
            go_wp2
            go_roundg (n - (k + 1))
            case rel => exact ⟨k + 1, _, by omega, rfl, by go_num, hKq.setCell (a := ⟨g, k, none⟩) (fun _ => rfl) _, fun j hj => by
              by_cases e : j = k
              · exact ⟨bits .xor .u8 z 255, by simp only [e, if_true]⟩
              · obtain ⟨y, hy⟩ := hf.out j hj
                exact ⟨y, by simp only [e, if_false]; exact hy⟩, hRq.set k _⟩
            case measure => omega
          · have HT2 : Hid (wr.rowIs t 34 R V) := hKq.row hT (fun e => hgt e.symm)
            have HK2 : Hid (Kp (fun b => base ≤ b) w wr) := hK.trans hKq (fun b _ e => by rw [e]; exact hb)
            have HW2 : Hid (∀ i, i < R → Wt wr base t (V i)) := fun i hi => (HW.out i hi).keep hKq hRq (fun cap' f' h' => by
              obtain ⟨c1, a1, a2, a3⟩ := h'
              obtain ⟨c2, b1, b2, b3⟩ := hr0
              rw [a1] at b1
              simp only [Option.some.injEq, Obj.cells.injEq, and_true] at b1
              subst b1
              refine ⟨by omega, fun j hj ⟨z, hz⟩ => ?_⟩
              refine hf.out j ⟨z, ?_⟩
              have x1 := a3 j (by omega)
              have x2 := b3 j hj
              rw [x1] at x2
              rw [← Option.some.inj x2, hz])
            clear hRq hKq hr0 hT
            go_wp2
            go_roundg (R - (r + 1))
            case rel => exact ⟨r + 1, by omega, rfl, by go_num, HK2.out, HT2.out, HW2.out⟩
            case measure => omega
      · have e : n = 0 := by omega
        subst e
        go_wp2
        go_loopg [13] 0 (fun gk i wq => gk = 0 ∧ i = .int .i64 0 ∧ wq = wr0)
        case atStart => exact ⟨rfl, rfl, rfl⟩
        case round =>
          obtain ⟨rfl, rfl, rfl⟩ := hrel
          have HT2 : Hid (wr.rowIs t 34 R V) := hT
          clear hT e1
          go_wp2
          go_roundg (R - (r + 1))
          case rel => exact ⟨r + 1, by omega, rfl, by go_num, hK, HT2.out, HW.out⟩
          case measure => omega
    · go_wp2
      go_end0
      exact ⟨rfl, hK⟩
end Go.Proofs.YtmooddbhcccicaaGreatDoor
