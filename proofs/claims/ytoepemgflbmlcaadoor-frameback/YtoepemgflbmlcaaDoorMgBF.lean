/- Texts of this proof, joined: Fe, Lfw1. -/
import Derived.Test.YtoepemgflbmlcaaDoorMgAM
import Derived.Deep.RegionWith
import Derived.Lib.SlBytesConst
/- The walks of bytes.Equal, where both are the same, and of the verifier's Spoil. -/
namespace Go.Proofs.YtoepemgflbmlcaaDoor
open Go.RowKit Go.Deep

set_option maxRecDepth 100000 in
set_option maxHeartbeats 800000 in
theorem bytesEqual_run (v1 v2 : Value) (b : ByteArray) (w : World) (h1 : (convert 28 9 v1).run Tryd.prog w = .ok (.string b) w) (h2 : (convert 28 9 v2).run Tryd.prog w = .ok (.string b) w) :
    Calls Tryd.prog 11 #[v1, v2] w fun e w' => e = .returned (.bool true) ∧ w' = w := by
  go_enter Tryd.func11, Tryd.ntmps11
  go_wp2
  go_ret
  exact ⟨rfl, rfl⟩
theorem equal_same (p1 p2 : Option Addr) (n1 n2 c1 c2 : Nat) (xs : List Nat) (w : World) (h1 : Rb w p1 n1 xs) (h2 : Rb w p2 n2 xs) :
    Calls Tryd.prog 11 #[.slice p1 n1 c1, .slice p2 n2 c2] w fun e w' => e = .returned (.bool true) ∧ w' = w :=
  bytesEqual_run _ _ _ w (convert_bytes p1 n1 c1 xs w h1) (convert_bytes p2 n2 c2 xs w h2)

/-- bytes that may be written over: nothing, or a row among the blocks from base on, none of them t -/
def Wt (w : World) (base t : Nat) (v : Value) : Prop := ∃ p n c, v = .slice p n c ∧ n ≤ 1000000000000000 ∧ (0 < n → ∃ g cap f, p = some ⟨g, 0, none⟩ ∧ base ≤ g ∧ g ≠ t ∧ n ≤ cap ∧ w.rowIs g 5 cap f ∧ ∀ j, j < n → ∃ z : Int, f j = .int .u8 z)
theorem Ow.wt {w : World} {base t : Nat} {v : Value} {xs : List Nat} (h : Ow w base v xs) (hl : xs.length ≤ 1000000000000000) (ht : ∀ g, v.ownBlock = some g → g ≠ t) : Wt w base t v := by
  rcases h.2 with ⟨rfl, h0⟩ | ⟨g, cap, cur, rfl, hb, hh, hn, _, hcs, htk⟩
  · exact ⟨none, 0, 0, rfl, by omega, fun h => by omega⟩
  · refine ⟨_, _, cap, rfl, hl, fun _ => ⟨g, cap, fun j => cur.getD j (.int .u8 0), rfl, hb, ht g rfl, hn, ⟨cur, hh, by omega, fun i hi => ?_⟩, fun j hj => ⟨((xs.getD j 0 : Nat) : Int), ?_⟩⟩⟩
    · show cur[i]? = some (cur.getD i (.int .u8 0))
      rw [Array.getD_eq_getD_getElem?, Array.getElem?_eq_getElem (by omega)]; rfl
    · have h1 : (cur.toList.take (xs.length * 1))[j]? = some (.int .u8 ((xs.getD j 0 : Nat) : Int)) := by rw [htk]; exact vl_get hj
      rw [List.getElem?_take_of_lt (by omega), Array.getElem?_toList] at h1
      show cur.getD j (.int .u8 0) = _
      rw [Array.getD_eq_getD_getElem?, h1]; rfl
theorem Wt.keep {w w' : World} {base t : Nat} {v : Value} (h : Wt w base t v) {g : Nat} {cap : Nat} {f : Nat → Value} (k : Kp (fun b => b = g) w w') (hr : w'.rowIs g 5 cap f) (hf : ∀ cap' f', w.rowIs g 5 cap' f' → cap' = cap ∧ ∀ j, j < cap → (∃ z : Int, f' j = .int .u8 z) → ∃ z : Int, f j = .int .u8 z) : Wt w' base t v := by
  obtain ⟨p, n, c, rfl, hn, h⟩ := h
  refine ⟨p, n, c, rfl, hn, fun h0 => ?_⟩
  obtain ⟨g', cap', f', rfl, hb, ht, hc, hR, hz⟩ := h h0
  by_cases e : g' = g
  · subst e
    obtain ⟨rfl, h2⟩ := hf _ _ hR
    exact ⟨g', cap', f, rfl, hb, ht, hc, hr, fun j hj => h2 j (by omega) (hz j hj)⟩
  · exact ⟨g', cap', f', rfl, hb, ht, hc, k.row hR e, hz⟩

set_option maxRecDepth 100000 in
set_option maxHeartbeats 1600000 in
theorem spoil_any (base t R cap : Nat) (V : Nat → Value) (w : World) (htop : w.rowIs t 28 R V) (hV : ∀ i, i < R → Wt w base t (V i)) (hR : (R : Int) ≤ 1000) :
    Calls Tryd.prog 38 #[.slice (some ⟨t, 0, none⟩) R cap] w fun e w' => e = .returned (.tuple #[]) ∧ Kp (fun b => base ≤ b) w w' := by
  go_enter Tryd.func38, Tryd.ntmps38
  go_wp2
  go_loopg [7] R (fun gk i wr => ∃ r : Nat, r ≤ R ∧ gk = R - r ∧ i = .int .i64 r ∧ Kp (fun b => base ≤ b) w wr ∧ wr.rowIs t 28 R V ∧ Hid (∀ i, i < R → Wt wr base t (V i)))
  case atStart => exact ⟨0, Nat.zero_le _, rfl, rfl, Kp.refl _ _, htop, hV⟩
  case round =>
    obtain ⟨r, hr, rfl, rfl, hK, hT, HW⟩ := hrel
    obtain ⟨wr0, rfl⟩ : ∃ x, x = wr := ⟨_, rfl⟩
    clear hV htop
    by_cases hlt : (r : Int) < (R : Int)
    · have e1 := hT.cell (i := r) (by omega)
      obtain ⟨p, n, c, hv, hn, hg⟩ := HW.out r (by omega)
      rw [hv] at e1
      clear hv
      have hn' : (n : Int) ≤ 1000000000000000 := by omega
      by_cases h0 : 0 < n
      · obtain ⟨g, cp, f0, rfl, hb, hgt, hcp, hr0, hz0⟩ := hg h0
        go_wp2
        go_loopg [13] n (fun gk i wq => ∃ (k : Nat) (f : Nat → Value), k ≤ n ∧ gk = n - k ∧ i = .int .i64 k ∧ Kp (fun b => b = g) wr0 wq ∧ Hid (∀ j, (∃ z : Int, f0 j = .int .u8 z) → ∃ z : Int, f j = .int .u8 z) ∧ wq.rowIs g 5 cp f)
        case atStart => exact ⟨0, f0, Nat.zero_le _, rfl, rfl, Kp.refl _ _, fun _ h => h, hr0⟩
        case round =>
          obtain ⟨k, f, hk, rfl, rfl, hKq, hf, hRq⟩ := hrel
          by_cases hlk : (k : Int) < (n : Int)
          · have f1 := hRq.cell (i := k) (by omega)
            have f2 := hRq.frozen k
            obtain ⟨z, hz⟩ := hf.out k (hz0 k (by omega))
            rw [hz] at f1
            clear hz hr0 hz0 hT
            go_wp2
            go_roundg (n - (k + 1))
            case rel => exact ⟨k + 1, _, by omega, rfl, by go_num, hKq.setCell (a := ⟨g, k, none⟩) (fun _ => rfl) _, fun j hj => by
              by_cases e : j = k
              · exact ⟨bits .xor .u8 z 255, by simp only [e, if_true]⟩
              · obtain ⟨y, hy⟩ := hf.out j hj
                exact ⟨y, by simp only [e, if_false]; exact hy⟩, hRq.set k _⟩
            case measure => omega
          · have HT2 : Hid (wr.rowIs t 28 R V) := hKq.row hT (fun e => hgt e.symm)
            have HK2 : Hid (Kp (fun b => base ≤ b) w wr) := hK.trans hKq (fun b _ e => by rw [e]; exact hb)
            have HW2 : Hid (∀ i, i < R → Wt wr base t (V i)) := fun i hi => (HW.out i hi).keep hKq hRq (fun cap' f' h' => by
              obtain ⟨c1, a1, a2, a3⟩ := h'
              obtain ⟨c2, b1, b2, b3⟩ := hr0
              rw [a1] at b1
              simp only [Option.some.injEq, Obj.cells.injEq, and_true] at b1
              subst b1
              refine ⟨by omega, fun j hj ⟨z, hz⟩ => ?_⟩
              refine hf.out j ⟨z, ?_⟩
              have x1 := a3 j (by omega)
              have x2 := b3 j hj
              rw [x1] at x2
              rw [← Option.some.inj x2, hz])
            clear hRq hKq hr0 hT
            go_wp2
            go_roundg (R - (r + 1))
            case rel => exact ⟨r + 1, by omega, rfl, by go_num, HK2.out, HT2.out, HW2.out⟩
            case measure => omega
      · have e : n = 0 := by omega
        subst e
        go_wp2
        go_loopg [13] 0 (fun gk i wq => gk = 0 ∧ i = .int .i64 0 ∧ wq = wr0)
        case atStart => exact ⟨rfl, rfl, rfl⟩
        case round =>
          obtain ⟨rfl, rfl, rfl⟩ := hrel
          have HT2 : Hid (wr.rowIs t 28 R V) := hT
          clear hT e1
          go_wp2
          go_roundg (R - (r + 1))
          case rel => exact ⟨r + 1, by omega, rfl, by go_num, hK, HT2.out, HW.out⟩
          case measure => omega
    · go_wp2
      go_end0
      exact ⟨rfl, hK⟩
end Go.Proofs.YtoepemgflbmlcaaDoor

/- The walk of the law FrameWraps: frames and sums; what is handed in stays. -/
namespace Go.Proofs.YtoepemgflbmlcaaDoor
open Go.RowKit Go.Deep

abbrev lit9 : Array Value := #[.int .u8 49, .int .u8 50, .int .u8 51, .int .u8 52, .int .u8 53, .int .u8 54, .int .u8 55, .int .u8 56, .int .u8 57]
theorem rb_lit9 (w : World) : Rb (w.alloc (.cells lit9 5 (9, 10))) (some ⟨w.heap.size, 0, none⟩) 9 [49, 50, 51, 52, 53, 54, 55, 56, 57] :=
  ⟨rfl, fun x hx => by simp only [List.mem_cons, List.not_mem_nil, or_false] at hx; omega, fun j hj => ⟨w.heap.size, 0, rfl, by
    have hh : (w.alloc (.cells lit9 5 (9, 10))).heap[w.heap.size]? = _ := heap_alloc_new w _
    rw [Nat.zero_add]
    unfold World.cell?
    simp only [hh]
    have hj' : j = 0 ∨ j = 1 ∨ j = 2 ∨ j = 3 ∨ j = 4 ∨ j = 5 ∨ j = 6 ∨ j = 7 ∨ j = 8 := by omega
    rcases hj' with rfl | rfl | rfl | rfl | rfl | rfl | rfl | rfl | rfl <;> rfl⟩⟩
theorem sum9 : Crc.sum [49, 50, 51, 52, 53, 54, 55, 56, 57] = 3808858755 := by decide +kernel
theorem rowIs_one (w : World) (v : Value) (t : TypeId) : (w.alloc (.cells #[v] t)).rowIs w.heap.size t 1 (fun _ => v) :=
  ⟨#[v], heap_alloc_new w _, rfl, fun i hi => (by
    obtain rfl : i = 0 := Nat.lt_one_iff.1 hi
    rfl)⟩

set_option maxRecDepth 100000 in
set_option maxHeartbeats 1600000 in
theorem frameWraps_walk (p : Option Addr) (n c : Nat) (xs : List Nat) (w : World) (h : Rb w p n xs) (_ : n ≤ c) (hn : Hid (n ≤ 140737488355328)) (ht : Turns w) :
    Calls Tryd.prog 13 #[.slice p n c] w fun e w' => e = .returned (.bool true) ∧ Kp (fun _ => False) w w' := by
  go_enter Tryd.func13, Tryd.ntmps13
  go_wp2_with fail
  refine (clone_any p n c xs w h hn).mono ?_
  rintro e w1 ⟨v1, rfl, k1, o1⟩
  obtain ⟨p1, c1, rfl, hc1, r1, hb1⟩ := o1.rb h.byte
  go_wp2_with fail
  refine (wrap_any p1 _ c1 xs w1 r1 (ht.keep0 k1)).mono ?_
  rintro e w2 ⟨v2, rfl, k2, o2⟩
  have k12 := k1.trans k2 (fun _ _ e => e)
  go_wp2_with fail
  refine (refWrap_any p n c xs w2 (h.keep0 k12)).mono ?_
  rintro e w3 ⟨v3, rfl, k3, o3⟩
  have k13 := k12.trans k3 (fun _ _ e => e)
  obtain ⟨p2, c2, rfl, hc2, r2, hb2⟩ := o2.rb (wrB_byte h.byte)
  obtain ⟨p3, c3, rfl, hc3, r3, hb3⟩ := o3.rb (wrB_byte h.byte)
  have HEq : Hid (Calls _ _ _ w3 _) := equal_same p2 p3 _ _ c2 c3 (wrB xs) w3 (r2.keep0 k3) r3
  have HL : Hid (xs.length = n) := h.len
  have HS1 : Hid (Calls _ _ _ w3 _) := sum_any p1 _ c1 xs w3 (r1.keep0 (k2.trans k3 (fun _ _ e => e))) (by rw [HL.out]; have := hn.out; omega) (ht.keep0 k13)
  have HS2 : Hid (Calls _ _ _ w3 _) := refSum_any p n c xs w3 (h.keep0 k13) (by have := hn.out; omega)
  go_wp2_with (first
    | (go_at_call 11; refine HEq.out.mono ?_; rintro e w' ⟨rfl, rfl⟩)
    | (go_at_call 36; refine HS1.out.mono ?_; rintro e w' ⟨rfl, rfl⟩)
    | (go_at_call 37; refine HS2.out.mono ?_; rintro e w' ⟨rfl, rfl⟩))
  have hw : Wt (w'.alloc (.cells #[.slice p2 (wrB xs).length c2] 28)) w1.heap.size w'.heap.size (.slice p2 (wrB xs).length c2) :=
    Ow.wt (World.ownsRow.alloc (ownsRow_keep o2 k3 (fun _ _ => id)) _) (by
      unfold wrB; split
      · rw [frm_length]; omega
      · simp) (fun g hg => by have := (ownBlock_lt o2 hg).2; have := k3.size; omega)
  have HSp : Hid (Calls _ _ _ _ _) := spoil_any w1.heap.size w'.heap.size 1 1 (fun _ => .slice p2 (wrB xs).length c2) _ (rowIs_one w' _ _) (fun _ _ => hw) (by omega)
  refine HSp.out.mono ?_
  rintro e w4 ⟨rfl, k4⟩
  have k4' : Kp (fun b => w1.heap.size ≤ b) w' w4 := ((Kp.refl _ _).alloc _).trans k4 (fun _ _ e => e)
  have k14 : Kp (fun b => w1.heap.size ≤ b) w1 w4 := ((k2.trans k3 (fun _ _ e => e)).mono (fun _ _ e => e.elim)).trans k4' (fun _ _ e => e)
  have k14 := k14.fresh
  have k04 := k1.trans k14 (fun _ _ e => e)
  have HEq2 : Hid (Calls _ _ _ w4 _) := equal_same p1 p _ n c1 c xs w4 (r1.keep0 k14) (h.keep0 k04)
  have HSum : Hid (∀ cc, Calls Tryd.prog 36 #[.slice (some ⟨w4.heap.size, 0, none⟩) 9 cc] (w4.alloc (.cells lit9 5 (9, 10))) fun e w' => e = .returned (.int .u32 3808858755) ∧ w' = (w4.alloc (.cells lit9 5 (9, 10)))) := fun cc => by
    have := sum_any (some ⟨w4.heap.size, 0, none⟩) 9 cc _ _ (rb_lit9 w4) (by omega) (ht.keep0 (k04.alloc _))
    rw [sum9] at this
    exact this
  have hcv := Go.Lib.run_convert_bytes_const (P := Tryd.prog) w4 28 5 lit9 9 9 Tryd.underlying28 Tryd.underlying5
  clear HSp hw o2 o3 r2 r3 hb1 hb2 hb3 HEq HS1 HS2 h k4 k14 r1 o1
  go_wp2_with (first
    | (go_at_call 11; refine HEq2.out.mono ?_; rintro e w' ⟨rfl, rfl⟩)
    | (go_at_call 36; refine (HSum.out _).mono ?_; rintro e w' ⟨rfl, rfl⟩))
  go_ret
  exact ⟨rfl, k04.alloc _⟩
end Go.Proofs.YtoepemgflbmlcaaDoor
