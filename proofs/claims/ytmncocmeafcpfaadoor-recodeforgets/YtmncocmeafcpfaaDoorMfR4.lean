/- The walks of slices.EqualFunc, whatever the texts; of reed.Encode's error; of reed.Right. -/
import Derived.Test.YtmncocmeafcpfaaDoorMfR3
import Derived.StillTailTactics
import Derived.Lib.Bytes
namespace Go.Proofs.YtmncocmeafcpfaaDoor.Mf
open Go.RowKit Go.Deep

theorem strOf_ints_eq {f g : Nat → Nat} {n m : Nat} (hf : ∀ j, f j < 256) (hg : ∀ j, g j < 256) (h : (strOfNums (ints f n)).toList = (strOfNums (ints g m)).toList) : n = m ∧ ∀ c, c < n → f c = g c := by
  have hd := h
  simp only [Go.Lib.strOfNums_toList, Go.Lib.bytesOf] at hd
  have hl := congrArg List.length hd
  simp only [List.length_map, ints_length] at hl
  refine ⟨hl, fun c hc => ?_⟩
  have hc' := congrArg (fun l => l[c]?) hd
  simp only [ints, List.getElem?_map, List.getElem?_range hc, List.getElem?_range (show c < m by omega), Option.map_some, Option.some.injEq] at hc'
  have e := congrArg UInt8.toNat hc'
  simp only [Int.toNat_natCast, UInt8.toNat_ofNat'] at e
  rw [Nat.mod_eq_of_lt (hf c), Nat.mod_eq_of_lt (hg c)] at e
  exact e

set_option maxRecDepth 100000 in
set_option maxHeartbeats 800000 in
theorem bytesEqual_run_ne (v1 v2 : Value) (b b' : ByteArray) (w : World) (h1 : (convert 22 9 v1).run Tryd.prog w = .ok (.string b) w) (h2 : (convert 22 9 v2).run Tryd.prog w = .ok (.string b') w) (hq : (b.toList == b'.toList) = false) :
    Calls Tryd.prog 18 #[v1, v2] w fun e w' => e = .returned (.bool false) ∧ w' = w := by
  go_enter Tryd.func18, Tryd.ntmps18
  go_wp2
  go_ret
  exact ⟨rfl, rfl⟩

/-- the rows r of two texts are the same -/
def rowSame (s t : Sh) (r : Nat) : Prop := s.L r = t.L r ∧ ∀ c, c < s.L r → s.M r c = t.M r c
def sameS (s t : Sh) : Prop := s.G = t.G ∧ ∀ r, r < s.G → rowSame s t r
theorem bytesEqual_ne (s t : Sh) (r : Nat) (c1 c2 : Nat) (w : World) (hs : Rd w s) (ht : Rd w t) (hr : r < s.G) (hr' : r < t.G) (hn : ¬ rowSame s t r) :
    Calls Tryd.prog 18 #[.slice (s.A r) (s.L r) c1, .slice (t.A r) (t.L r) c2] w fun e w' => e = .returned (.bool false) ∧ w' = w := by
  refine bytesEqual_run_ne _ _ _ _ w (convert_row (s.A r) (s.RB r) (s.RO r) (s.L r) c1 (s.M r) w (hs.to r hr) (hs.cell r hr)) (convert_row (t.A r) (t.RB r) (t.RO r) (t.L r) c2 (t.M r) w (ht.to r hr') (ht.cell r hr')) ?_
  rw [beq_eq_false_iff_ne]
  exact fun e => hn (strOf_ints_eq (hs.byte r) (ht.byte r) e)

set_option maxRecDepth 100000 in
set_option maxHeartbeats 1600000 in
theorem encode_no (K M : Nat) (s : Sh) (w : World) (hs : Rd w s) (hG : s.G = K) (h1 : 1 ≤ (K : Int)) (h3 : (M : Int) ≤ 255 - (K : Int)) (hbad : (thereTo s.L K).length ≠ K ∨ alikeTo s.L K K = false) :
    Calls Tryd.prog 118 #[.agg #[.int .i64 K, .int .i64 M], .slice s.g K s.cap] w fun e w' =>
      e = .returned (.tuple #[.slice none 0 0, .int .i64 1]) ∧ Kp (fun _ => False) w w' := by
  subst hG
  obtain ⟨wa, hwa⟩ : ∃ x, x = w.alloc (.cells #[.int .i64 (s.G : Int), .int .i64 (M : Int)] 26) := ⟨_, rfl⟩
  have q1 : wa.cell? ⟨w.heap.size, 0, none⟩ = some (.int .i64 (s.G : Int)) := by rw [hwa]; go_simp
  have q2 : wa.cell? ⟨w.heap.size, 1, none⟩ = some (.int .i64 (M : Int)) := by rw [hwa]; go_simp
  have k0 : Kp (fun _ => False) w wa := by rw [hwa]; exact (Kp.refl _ _).alloc _
  have HC : Hid (Calls _ _ _ wa _) := can_yes s.G M wa h1 (by omega) h3
  have hnn : ((s.G : Int) != (s.G : Int)) = false := bne_self_eq_false _
  have HB : Hid ((thereTo s.L s.G).length ≠ s.G ∨ alikeTo s.L s.G s.G = false) := hbad
  clear hbad
  go_enter Tryd.func118, Tryd.ntmps118
  go_wp2_with fail
  rw [← hwa]
  refine HC.out.mono ?_
  rintro e w1 ⟨rfl, k1⟩
  have r1 := k1.cellv q1 id
  have r2 := k1.cellv q2 id
  have kk := k0.trans k1 (fun _ _ e => e)
  clear HC q1 q2 k0 k1 hwa
  have HK : Hid (Calls _ _ _ w1 _) := look_any s w1 (hs.keep kk) (by omega) h1
  go_wp2_with fail
  refine HK.out.mono ?_
  rintro e w2 ⟨v, rfl, k2, pa, ba, cv, rfl, _, _⟩
  have s1 := k2.cellv r1 id
  have s2 := k2.cellv r2 id
  have kk2 := kk.trans k2 (fun _ _ e => e)
  clear HK r1 r2
  by_cases hl : (thereTo s.L s.G).length = s.G
  · have hal : alikeTo s.L s.G s.G = false := HB.out.resolve_left (fun h => h hl)
    rw [hal, hl]
    clear hal hl
    go_wp2
    go_ret2
    exact ⟨rfl, kk2⟩
  · have hq : (((thereTo s.L s.G).length : Int) != (s.G : Int)) = true := bne_iff_ne.2 (by omega)
    generalize (thereTo s.L s.G).length = len at *
    generalize alikeTo s.L s.G s.G = al at *
    clear HB
    go_wp2
    go_ret2
    exact ⟨rfl, kk2⟩

end Go.Proofs.YtmncocmeafcpfaaDoor.Mf
