/- The walks of slices.EqualFunc, whatever the texts; of reed.Encode's error; of reed.Right. -/
import Derived.Test.YtbmhfclknilcoaaDoorR3
import Derived.StillTailTactics
import Derived.Lib.Bytes
namespace Go.Proofs.YtbmhfclknilcoaaDoor
open Go.RowKit Go.Deep

theorem strOf_ints_eq {f g : Nat → Nat} {n m : Nat} (hf : ∀ j, f j < 256) (hg : ∀ j, g j < 256) (h : (strOfNums (ints f n)).toList = (strOfNums (ints g m)).toList) : n = m ∧ ∀ c, c < n → f c = g c := by
  have hd := h
  simp only [Go.Lib.strOfNums_toList, Go.Lib.bytesOf] at hd
  have hl := congrArg List.length hd
  simp only [List.length_map, ints_length] at hl
  refine ⟨hl, fun c hc => ?_⟩
  have hc' := congrArg (fun l => l[c]?) hd
  simp only [ints, List.getElem?_map, List.getElem?_range hc, List.getElem?_range (show c < m by omega), Option.map_some, Option.some.injEq] at hc'
  have e := congrArg UInt8.toNat hc'
  simp only [Int.toNat_natCast, UInt8.toNat_ofNat'] at e
  rw [Nat.mod_eq_of_lt (hf c), Nat.mod_eq_of_lt (hg c)] at e
  exact e

set_option maxRecDepth 100000 in
set_option maxHeartbeats 800000 in
theorem bytesEqual_run_ne (v1 v2 : Value) (b b' : ByteArray) (w : World) (h1 : (convert 30 9 v1).run Tryd.prog w = .ok (.string b) w) (h2 : (convert 30 9 v2).run Tryd.prog w = .ok (.string b') w) (hq : (b.toList == b'.toList) = false) :
    Calls Tryd.prog 12 #[v1, v2] w fun e w' => e = .returned (.bool false) ∧ w' = w := by
  go_enter Tryd.func12, Tryd.ntmps12
  go_wp2
  go_ret
  exact ⟨rfl, rfl⟩

/-- the rows r of two texts are the same -/
def rowSame (s t : Sh) (r : Nat) : Prop := s.L r = t.L r ∧ ∀ c, c < s.L r → s.M r c = t.M r c
def sameS (s t : Sh) : Prop := s.G = t.G ∧ ∀ r, r < s.G → rowSame s t r
theorem bytesEqual_ne (s t : Sh) (r : Nat) (c1 c2 : Nat) (w : World) (hs : Rd w s) (ht : Rd w t) (hr : r < s.G) (hr' : r < t.G) (hn : ¬ rowSame s t r) :
    Calls Tryd.prog 12 #[.slice (s.A r) (s.L r) c1, .slice (t.A r) (t.L r) c2] w fun e w' => e = .returned (.bool false) ∧ w' = w := by
  refine bytesEqual_run_ne _ _ _ _ w (convert_row (s.A r) (s.RB r) (s.RO r) (s.L r) c1 (s.M r) w (hs.to r hr) (hs.cell r hr)) (convert_row (t.A r) (t.RB r) (t.RO r) (t.L r) c2 (t.M r) w (ht.to r hr') (ht.cell r hr')) ?_
  rw [beq_eq_false_iff_ne]
  exact fun e => hn (strOf_ints_eq (hs.byte r) (ht.byte r) e)

set_option maxRecDepth 100000 in
set_option maxHeartbeats 1600000 in
theorem equalFunc_ne (s t : Sh) (w : World) (hs : Rd w s) (ht : Rd w t) (hG : t.G = s.G) (h0 : 1 ≤ (s.G : Int)) (hb : (s.G : Int) ≤ 1000000000000000) (hne : ¬ sameS s t) :
    Calls Tryd.prog 29 #[.slice s.g s.G s.cap, .slice t.g s.G t.cap, .func (.func 12) #[] #[]] w fun e w' => e = .returned (.bool false) ∧ w' = w := by
  have HN : Hid (¬ ∀ r, r < s.G → rowSame s t r) := fun h => hne ⟨hG.symm, h⟩
  rw [hs.at0 (by omega), ht.at0 (by omega)]
  clear hne
  go_enter Tryd.func29, Tryd.ntmps29
  go_wp2
  go_loopg [17] s.G (fun gk i wr => ∃ k : Nat, k ≤ s.G ∧ gk = s.G - k ∧ i = .int .i64 k ∧ Hid (∀ r, r < k → rowSame s t r) ∧ wr = w)
  case atStart => exact ⟨0, Nat.zero_le _, rfl, rfl, fun _ h => absurd h (Nat.not_lt_zero _), rfl⟩
  case round =>
    obtain ⟨k, hk, rfl, rfl, hP, rfl⟩ := hrel
    by_cases hlt : (k : Int) < (s.G : Int)
    · have c1 := hs.hd k (by omega)
      have c2 := ht.hd k (by omega)
      by_cases hrow : rowSame s t k
      · have HB : Hid (∀ c1 c2, Calls Tryd.prog 12 #[.slice (s.A k) (s.L k) c1, .slice (t.A k) (s.L k) c2] wr fun e w' => e = .returned (.bool true) ∧ w' = wr) := fun c1 c2 =>
          bytesEqual_same (s.A k) (t.A k) (s.RB k) (s.RO k) (t.RB k) (t.RO k) (s.L k) c1 c2 (s.M k) (t.M k) wr (hs.to k (by omega)) (fun j hj => ht.to k (by omega) j (by rw [← hrow.1]; exact hj)) (hs.cell k (by omega)) (fun j hj => ht.cell k (by omega) j (by rw [← hrow.1]; exact hj)) hrow.2
        have HR : Hid (rowSame s t k) := hrow
        rw [← hrow.1] at c2
        clear hs ht hG hrow
        go_wp2_with (go_at_call 12; refine (HB.out _ _).mono ?_; rintro e w' ⟨rfl, rfl⟩)
        go_roundg (s.G - (k + 1))
        case rel => exact ⟨k + 1, by omega, rfl, by go_num, fun r hr => by
          by_cases e : r = k
          · rw [e]; exact HR.out
          · exact hP.out r (by omega), rfl⟩
        case measure => omega
      · have HB : Hid (∀ c1 c2, Calls Tryd.prog 12 #[.slice (s.A k) (s.L k) c1, .slice (t.A k) (t.L k) c2] wr fun e w' => e = .returned (.bool false) ∧ w' = wr) := fun c1 c2 =>
          bytesEqual_ne s t k c1 c2 wr hs ht (by omega) (by omega) hrow
        clear hs ht hG hrow
        go_wp2_with (go_at_call 12; refine (HB.out _ _).mono ?_; rintro e w' ⟨rfl, rfl⟩)
        go_ret
        exact ⟨rfl, rfl⟩
    · exact absurd (fun r hr => hP.out r (by omega)) HN.out

set_option maxRecDepth 100000 in
set_option maxHeartbeats 1600000 in
theorem equalFunc_len (s t : Sh) (w : World) (hG : t.G ≠ s.G) :
    Calls Tryd.prog 29 #[.slice s.g s.G s.cap, .slice t.g t.G t.cap, .func (.func 12) #[] #[]] w fun e w' => e = .returned (.bool false) ∧ w' = w := by
  have hq : ((s.G : Int) != (t.G : Int)) = true := bne_iff_ne.2 (by omega)
  go_enter Tryd.func29, Tryd.ntmps29
  go_wp2
  go_ret
  exact ⟨rfl, rfl⟩

theorem equalFunc_any (s t : Sh) (w : World) (hs : Rd w s) (ht : Rd w t) (hb : (s.G : Int) ≤ 1000000000000000) (b : Bool) (hyes : b = true → sameS s t) (hno : b = false → ¬ sameS s t) :
    Calls Tryd.prog 29 #[.slice s.g s.G s.cap, .slice t.g t.G t.cap, .func (.func 12) #[] #[]] w fun e w' => e = .returned (.bool b) ∧ w' = w := by
  cases b with
  | true =>
    have h := hyes rfl
    have := equalFunc_same s t w hs ht h.1.symm (fun r hr => (h.2 r hr).1.symm) (fun r hr => (h.2 r hr).2) hb
    rw [← h.1]; exact this
  | false =>
    have h := hno rfl
    by_cases hG : t.G = s.G
    · by_cases h0 : 1 ≤ s.G
      · have := equalFunc_ne s t w hs ht hG (by omega) hb h
        rw [hG]; exact this
      · exact absurd ⟨hG.symm, fun r hr => by omega⟩ h
    · exact equalFunc_len s t w hG

set_option maxRecDepth 100000 in
set_option maxHeartbeats 800000 in
theorem sameTexts_any (s t : Sh) (w : World) (hs : Rd w s) (ht : Rd w t) (hb : (s.G : Int) ≤ 1000000000000000) (b : Bool) (hyes : b = true → sameS s t) (hno : b = false → ¬ sameS s t) :
    Calls Tryd.prog 11 #[.slice s.g s.G s.cap, .slice t.g t.G t.cap] w fun e w' => e = .returned (.bool b) ∧ w' = w := by
  have HE : Hid (Calls _ _ _ w _) := equalFunc_any s t w hs ht hb b hyes hno
  clear hs ht hyes hno
  go_enter Tryd.func11, Tryd.ntmps11
  go_wp2_with (go_at_call 29; refine HE.out.mono ?_; rintro e w' ⟨rfl, rfl⟩)
  go_ret
  exact ⟨rfl, rfl⟩

set_option maxRecDepth 100000 in
set_option maxHeartbeats 1600000 in
theorem encode_no (K M : Nat) (s : Sh) (w : World) (hs : Rd w s) (hG : s.G = K) (h1 : 1 ≤ (K : Int)) (h3 : (M : Int) ≤ 255 - (K : Int)) (hbad : (thereTo s.L K).length ≠ K ∨ alikeTo s.L K K = false) :
    Calls Tryd.prog 30 #[.agg #[.int .i64 K, .int .i64 M], .slice s.g K s.cap] w fun e w' =>
      e = .returned (.tuple #[.slice none 0 0, .int .i64 1]) ∧ Kp (fun _ => False) w w' := by
  subst hG
  obtain ⟨wa, hwa⟩ : ∃ x, x = w.alloc (.cells #[.int .i64 (s.G : Int), .int .i64 (M : Int)] 23) := ⟨_, rfl⟩
  have q1 : wa.cell? ⟨w.heap.size, 0, none⟩ = some (.int .i64 (s.G : Int)) := by rw [hwa]; go_simp
  have q2 : wa.cell? ⟨w.heap.size, 1, none⟩ = some (.int .i64 (M : Int)) := by rw [hwa]; go_simp
  have k0 : Kp (fun _ => False) w wa := by rw [hwa]; exact (Kp.refl _ _).alloc _
  have HC : Hid (Calls _ _ _ wa _) := can_yes s.G M wa h1 (by omega) h3
  have hnn : ((s.G : Int) != (s.G : Int)) = false := bne_self_eq_false _
  have HB : Hid ((thereTo s.L s.G).length ≠ s.G ∨ alikeTo s.L s.G s.G = false) := hbad
  clear hbad
  go_enter Tryd.func30, Tryd.ntmps30
  go_wp2_with fail
  rw [← hwa]
  refine HC.out.mono ?_
  rintro e w1 ⟨rfl, k1⟩
  have r1 := k1.cellv q1 id
  have r2 := k1.cellv q2 id
  have kk := k0.trans k1 (fun _ _ e => e)
  clear HC q1 q2 k0 k1 hwa
  have HK : Hid (Calls _ _ _ w1 _) := look_any s w1 (hs.keep kk) (by omega) h1
  go_wp2_with fail
  refine HK.out.mono ?_
  rintro e w2 ⟨v, rfl, k2, pa, ba, cv, rfl, _, _⟩
  have s1 := k2.cellv r1 id
  have s2 := k2.cellv r2 id
  have kk2 := kk.trans k2 (fun _ _ e => e)
  clear HK r1 r2
  by_cases hl : (thereTo s.L s.G).length = s.G
  · have hal : alikeTo s.L s.G s.G = false := HB.out.resolve_left (fun h => h hl)
    rw [hal, hl]
    clear hal hl
    go_wp2
    go_ret2
    exact ⟨rfl, kk2⟩
  · have hq : (((thereTo s.L s.G).length : Int) != (s.G : Int)) = true := bne_iff_ne.2 (by omega)
    generalize (thereTo s.L s.G).length = len at *
    generalize alikeTo s.L s.G s.G = al at *
    clear HB
    go_wp2
    go_ret2
    exact ⟨rfl, kk2⟩

set_option maxRecDepth 100000 in
set_option maxHeartbeats 1600000 in
theorem right_all (K M n : Nat) (s : Sh) (w : World) (hs : Rd w s) (hG : s.G = K + M) (hL : ∀ r, r < K + M → s.L r = n) (h1 : 1 ≤ (K : Int)) (h3 : (M : Int) ≤ 255 - (K : Int)) (hp : Pows w) (hn : (n : Int) ≤ 1000000) (hn1 : 1 ≤ (n : Int)) (hcap : (K : Int) ≤ (s.cap : Int))
    (b : Bool) (hyes : b = true → ∀ i, i < K + M → ∀ p, p < n → enc K s.M i p = s.M i p) (hno : b = false → ¬ ∀ i, i < K + M → ∀ p, p < n → enc K s.M i p = s.M i p) :
    Calls Tryd.prog 13 #[.agg #[.int .i64 K, .int .i64 M], .slice s.g (K + M) s.cap] w fun e w' => e = .returned (.bool b) ∧ Kp (fun _ => False) w w' := by
  obtain ⟨wa, hwa⟩ : ∃ x, x = w.alloc (.cells #[.int .i64 (K : Int), .int .i64 (M : Int)] 23) := ⟨_, rfl⟩
  have q1 : wa.cell? ⟨w.heap.size, 0, none⟩ = some (.int .i64 (K : Int)) := by rw [hwa]; go_simp
  have q2 : wa.cell? ⟨w.heap.size, 1, none⟩ = some (.int .i64 (M : Int)) := by rw [hwa]; go_simp
  have k0 : Kp (fun _ => False) w wa := by rw [hwa]; exact (Kp.refl _ _).alloc _
  have HC : Hid (Calls _ _ _ wa _) := can_yes K M wa h1 (by omega) h3
  have hneq' : (((K + M : Nat) : Int) != (K : Int) + (M : Int)) = false := by rw [show ((K + M : Nat) : Int) = (K : Int) + (M : Int) from by simp]; exact bne_self_eq_false _
  have hneq : ((K : Int) + (M : Int) != (K : Int) + (M : Int)) = false := bne_self_eq_false _
  have hle : (K : Int) ≤ ((K + M : Nat) : Int) := by omega
  have hle2 : (K : Int) ≤ (K : Int) + (M : Int) := by omega
  have hg := hs.at0 (by omega)
  rw [hg]
  have HL : Hid (∀ r, r < K + M → s.L r = n) := hL
  have hG' : Hid (s.G = K + M) := hG
  have HY : Hid (b = true → ∀ i, i < K + M → ∀ p, p < n → enc K s.M i p = s.M i p) := hyes
  have HN : Hid (b = false → ¬ ∀ i, i < K + M → ∀ p, p < n → enc K s.M i p = s.M i p) := hno
  have Hg : Hid (s.g = some ⟨s.gb, s.go, none⟩) := hg
  clear hyes hno hL hG hg
  go_enter Tryd.func13, Tryd.ntmps13
  go_wp2_with fail
  rw [← hwa]
  refine HC.out.mono ?_
  rintro e w1 ⟨rfl, k1⟩
  have r1 := k1.cellv q1 id
  have r2 := k1.cellv q2 id
  have kk := k0.trans k1 (fun _ _ e => e)
  clear HC q1 q2 k0 k1 hwa
  have HE : Hid (∀ w' cap, Kp (fun _ => False) w1 w' → Calls _ _ #[_, .slice _ _ cap] w' _) := fun w' cap k' => encode_yes K M n ⟨s.g, K, cap, s.gb, s.go, s.A, s.L, s.C, s.RB, s.RO, s.M⟩ w' (by
    have h := (hs.keep kk).keep k'
    exact ⟨fun h0 => h.at0 (by rw [hG'.out]; simp at h0; omega), fun r hr => h.hd r (by rw [hG'.out]; simp at hr; omega), fun r hr => h.to r (by rw [hG'.out]; simp at hr; omega), fun r hr => h.cell r (by rw [hG'.out]; simp at hr; omega), h.byte⟩) rfl (fun r hr => HL.out r (by omega)) h1 h3 (k'.pows (kk.pows hp id) id) hn hn1
  rw [show s.g = some ⟨s.gb, s.go, none⟩ from Hg.out] at HE
  go_wp2
  go_region_with (go_at_call 30; refine (HE.out _ _ (by exact ⟨rfl, rfl, rfl, Nat.le_refl _, fun _ _ _ => rfl⟩)).mono ?_; rintro e w2 ⟨t, B, rfl, k2, _, _, hM⟩)
  all_goals
    have kk2 := kk.trans (((Kp.refl (fun _ => False) w1).drew).trans k2 (fun _ _ e => e)) (fun _ _ e => e)
    have HF : Hid (Calls _ _ _ w2 _) := equalFunc_any (ofMat t B (K + M) n (enc K s.M)) s w2 hM.rd (hs.keep kk2) (by show ((K + M : Nat) : Int) ≤ _; omega) b
      (fun h => ⟨hG'.out.symm, fun r hr => ⟨(HL.out r hr).symm, fun c hc => HY.out h r hr c hc⟩⟩) (fun h hx => HN.out h (fun i hi p hp => (hx.2 i hi).2 p hp))
    rw [hG'.out, Hg.out] at HF
    clear HE
    go_wp2_with fail
    refine HF.out.mono ?_
    rintro e w3 ⟨rfl, hw⟩
    obtain rfl := hw.symm
    go_wp2
    go_ret
    exact ⟨rfl, kk2⟩
end Go.Proofs.YtbmhfclknilcoaaDoor
