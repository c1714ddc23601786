/- The walk of the reference's Unwrap. -/
import Derived.Test.YtlgockombdjbpaaDoorFv
import Derived.Deep.RegionLaw
import Derived.Lib.Bytes
namespace Go.Proofs.YtlgockombdjbpaaDoor
open Go.RowKit Go.Deep

theorem str_inj {xs ys : List Nat} (hx : ∀ x ∈ xs, x < 256) (hy : ∀ y ∈ ys, y < 256) (h : str xs = str ys) : xs = ys := by
  have e : (str xs).data.toList = (str ys).data.toList := by rw [h]
  simp only [str, strOfNums_data, List.map_map] at e
  have back : ∀ {l : List Nat}, (∀ x ∈ l, x < 256) → (l.map ((fun n : Int => UInt8.ofNat n.toNat) ∘ fun x : Nat => (x : Int))).map (fun u => u.toNat) = l := by
    intro l hl
    rw [List.map_map]
    conv => rhs; rw [← List.map_id l]
    refine List.map_congr_left (fun x hx => ?_)
    have := hl x hx
    simp [UInt8.toNat_ofNat', Nat.mod_eq_of_lt this]
  rw [← back hx, ← back hy, e]
theorem str_toList_ne {xs ys : List Nat} (hx : ∀ x ∈ xs, x < 256) (hy : ∀ y ∈ ys, y < 256) (h : xs ≠ ys) : ((str xs).toList == (str ys).toList) = false := by
  rw [beq_eq_false_iff_ne]
  intro e
  refine h (str_inj hx hy ?_)
  have e2 : (str xs).data.toList = (str ys).data.toList := by
    unfold str at e ⊢
    rw [Go.Lib.strOfNums_toList, Go.Lib.strOfNums_toList] at e
    exact e
  have e3 : (str xs).data = (str ys).data := Array.ext' e2
  cases hA : str xs
  cases hB : str ys
  rw [hA, hB] at e3
  simp only at e3
  rw [e3]
theorem own_empty {w : World} {base g : Nat} (h : w.heap[g]? = some (.cells #[] 5 (0, 0))) (hb : base ≤ g) : Ow w base (.slice (some ⟨g, 0, none⟩) 0 0) [] :=
  ⟨rfl, Or.inr ⟨g, 0, #[], rfl, hb, h, Nat.le_refl _, by unfold maxLen; omega, rfl, rfl⟩⟩
theorem heap_new (w : World) (o : Obj) : (w.alloc o).heap[w.heap.size]? = some o := heap_alloc_new w o
theorem heap_old (w : World) (o o' : Obj) : ((w.alloc o).alloc o').heap[w.heap.size]? = some o := by
  rw [heap_alloc_old _ _ (by simp), heap_alloc_new]
theorem heap_new1 (w : World) (o o' : Obj) : ((w.alloc o).alloc o').heap[w.heap.size + 1]? = some o' := by
  have := heap_alloc_new (w.alloc o) o'
  simpa using this
theorem heap_new_d (w : World) (o : Obj) : (w.alloc o).drew.heap[w.heap.size]? = some o := heap_new w o
theorem heap_old_d (w : World) (o o' : Obj) : ((w.alloc o).alloc o').drew.heap[w.heap.size]? = some o := heap_old w o o'
theorem heap_new1_d (w : World) (o o' : Obj) : ((w.alloc o).alloc o').drew.heap[w.heap.size + 1]? = some o' := heap_new1 w o o'

set_option maxRecDepth 100000 in
set_option maxHeartbeats 1600000 in
theorem refUnwrap_any (p : Option Addr) (n c : Nat) (xs : List Nat) (w : World) (h : Rb w p n xs) (hc : n ≤ c) (hn : Hid (n ≤ 140737488355328)) :
    Calls Tryd.prog 16 #[.slice p n c] w fun e w' => ∃ v1 v2, e = .returned (.tuple #[v1, v2, .int .i64 ((lkE xs : Nat) : Int)]) ∧ Kp (fun _ => False) w w' ∧ Ow w' w.heap.size v1 (unB xs) ∧ Ow w' w.heap.size v2 (unR xs) := by
  have hl := h.len
  have bad : ∀ E, lkE xs = E → E ≠ 0 → unB xs = [] ∧ unR xs = [] := fun E e h => by
    unfold unB unR; rw [if_neg (by omega), if_neg (by omega)]; exact ⟨rfl, rfl⟩
  by_cases h0 : n = 0
  · subst h0
    have e1 : lkE xs = 50 := by unfold lkE; rw [if_pos hl]
    obtain ⟨e2, e3⟩ := bad _ e1 (by omega)
    rw [e1, e2, e3]
    clear e1 e2 e3 hl bad h
    go_enter Tryd.func16, Tryd.ntmps16
    go_wp2
    go_ret3
    exact ⟨_, _, rfl, Kp.refl _ _, World.ownsRow_nil _ _ _ _, World.ownsRow_nil _ _ _ _⟩
  have hpos : 0 < n := by omega
  have hni : (n : Int) ≤ 140737488355328 := by have := hn.out; omega
  obtain ⟨b, o, rfl, hb⟩ := h.pt (by omega)
  have hn0 : ((n : Int) == 0) = false := by rw [beq_eq_false_iff_ne]; omega
  have c0 := hb 0 (by omega)
  rw [Nat.add_zero] at c0
  have b0 := h.byteAt 0
  obtain ⟨x0, hx0⟩ : ∃ x, x = xs.getD 0 0 := ⟨_, rfl⟩
  rw [← hx0] at c0 b0
  by_cases h1 : x0 = 163
  · by_cases h2 : (n : Int) < 3
    · have e1 : lkE xs = 50 := by unfold lkE; rw [if_neg (by omega), if_neg (by rw [← hx0]; simpa using h1), if_pos (by omega)]
      obtain ⟨e2, e3⟩ := bad _ e1 (by omega)
      rw [e1, e2, e3]
      clear e1 e2 e3 hl hx0 bad h hb
      subst h1
      go_enter Tryd.func16, Tryd.ntmps16
      go_wp2
      go_ret3
      exact ⟨_, _, rfl, Kp.refl _ _, World.ownsRow_nil _ _ _ _, World.ownsRow_nil _ _ _ _⟩
    · have c1 := hb 1 (by omega)
      have c2 := hb 2 (by omega)
      have b1 := h.byteAt 1
      have b2 := h.byteAt 2
      have HN : Hid (lkN xs = xs.getD 1 0 * 256 + xs.getD 2 0) := rfl
      have HE : Hid (lkE xs = if lkN xs = 0 then 51
        else if xs.length < lkN xs + 7 then 50
        else if (xs.take (3 + lkN xs + 4)).drop (3 + lkN xs) ≠ big (Crc.sum (xs.take (3 + lkN xs))) 4 then 52
        else 0) := by
          show _ = _
          unfold lkE
          rw [if_neg (by omega), if_neg (by rw [← hx0]; simpa using h1), if_neg (by omega)]
      have HB : Hid (unB xs = if lkE xs = 0 then (xs.take (3 + lkN xs)).drop 3 else []) := rfl
      have HR : Hid (unR xs = if lkE xs = 0 then xs.drop (3 + lkN xs + 4) else []) := rfl
      obtain ⟨E, hE⟩ : ∃ E, E = lkE xs := ⟨_, rfl⟩
      obtain ⟨UB, hUB⟩ : ∃ U, U = unB xs := ⟨_, rfl⟩
      obtain ⟨UR, hUR⟩ : ∃ U, U = unR xs := ⟨_, rfl⟩
      obtain ⟨x1, hx1⟩ : ∃ x, x = xs.getD 1 0 := ⟨_, rfl⟩
      obtain ⟨x2, hx2⟩ : ∃ x, x = xs.getD 2 0 := ⟨_, rfl⟩
      rw [← hx1] at c1 b1 HN
      rw [← hx2] at c2 b2 HN
      rw [← hE] at HE HB HR
      rw [← hUB] at HB
      rw [← hUR] at HR
      rw [← hE, ← hUB, ← hUR]
      subst h1
      obtain ⟨N, hN⟩ : ∃ N, N = x1 * 256 + x2 := ⟨_, rfl⟩
      rw [← hN] at HN
      have or1 : (x1 : Int) * 256 + (x2 : Int) = (N : Int) := by omega
      have hNb : (N : Int) < 65536 := by omega
      rw [HN.out] at HE HB HR
      clear hE hUB hUR hx1 hx2 hx0 hN HN bad
      by_cases h3 : N = 0
      · have HE1 : Hid (E = 51) := by rw [HE.out, if_pos h3]; exact rfl
        have HB1 : Hid (UB = []) := by rw [HB.out, HE1.out]; exact rfl
        have HR1 : Hid (UR = []) := by rw [HR.out, HE1.out]; exact rfl
        have d3 : ((N : Int) == 0) = true := by rw [beq_iff_eq]; omega
        clear h3 hl hb
        go_enter Tryd.func16, Tryd.ntmps16
        go_wp2
        go_quiet (fail)
        go_wp2
        go_ret3
        exact ⟨_, _, by rw [HE1.out]; rfl, (Kp.refl _ _).drewN _, by rw [HB1.out]; exact World.ownsRow_nil _ _ _ _, by rw [HR1.out]; exact World.ownsRow_nil _ _ _ _⟩
      · have d3 : ((N : Int) == 0) = false := by rw [beq_eq_false_iff_ne]; omega
        by_cases h4 : (n : Int) - 7 < (N : Int)
        · have HE1 : Hid (E = 50) := by rw [HE.out, if_neg h3, if_pos (by omega)]; exact rfl
          have HB1 : Hid (UB = []) := by rw [HB.out, HE1.out]; exact rfl
          have HR1 : Hid (UR = []) := by rw [HR.out, HE1.out]; exact rfl
          clear h3 hl hb
          go_enter Tryd.func16, Tryd.ntmps16
          go_wp2
          go_quiet (fail)
          go_wp2
          go_ret3
          exact ⟨_, _, by rw [HE1.out]; rfl, (Kp.refl _ _).drewN _, by rw [HB1.out]; exact World.ownsRow_nil _ _ _ _, by rw [HR1.out]; exact World.ownsRow_nil _ _ _ _⟩
        · have s1 := slice_lh (some ⟨b, o, none⟩) n c (3 + N) (3 + N + 4) (by omega) (by omega)
          have s2 := slice_h (some ⟨b, o, none⟩) n c (3 + N) (by omega)
          have s3 := slice_lh (some ⟨b, o, none⟩) n c 3 (3 + N) (by omega) (by omega)
          have s4 := slice_l (some ⟨b, o, none⟩) n c (3 + N + 4) (by omega)
          have r1 := h.part hc (l := 3 + N) (r := 3 + N + 4) (by omega) (by omega)
          have r2 := h.part hc (l := 0) (r := 3 + N) (by omega) (by omega)
          have r3 := h.part hc (l := 3) (r := 3 + N) (by omega) (by omega)
          have r4 := h.part hc (l := 3 + N + 4) (r := n) (by omega) (by omega)
          obtain ⟨p1, hp1⟩ : ∃ p1, p1 = if c = 3 + N then some (⟨b, o, none⟩ : Addr) else (some (⟨b, o, none⟩ : Addr)).map (·.add ((3 + N) * 1)) := ⟨_, rfl⟩
          obtain ⟨p2, hp2⟩ : ∃ p2, p2 = if c = 0 then some (⟨b, o, none⟩ : Addr) else (some (⟨b, o, none⟩ : Addr)).map (·.add (0 * 1)) := ⟨_, rfl⟩
          obtain ⟨p3, hp3⟩ : ∃ p1, p1 = if c = 3 then some (⟨b, o, none⟩ : Addr) else (some (⟨b, o, none⟩ : Addr)).map (·.add (3 * 1)) := ⟨_, rfl⟩
          obtain ⟨p4, hp4⟩ : ∃ p2, p2 = if c = 3 + N + 4 then some (⟨b, o, none⟩ : Addr) else (some (⟨b, o, none⟩ : Addr)).map (·.add ((3 + N + 4) * 1)) := ⟨_, rfl⟩
          rw [← hp1] at s1 r1
          rw [← hp2] at s2 r2
          rw [← hp3] at s3 r3
          rw [← hp4] at s4 r4
          clear hp1 hp2 hp3 hp4
          rw [List.drop_zero] at r2
          rw [List.take_of_length_le (l := xs) (i := n) (by omega)] at r4
          have e34 : 3 + N + 4 - (3 + N) = 4 := by omega
          have eN : 3 + N - 3 = N := by omega
          rw [e34] at s1 r1
          rw [eN] at s3 r3
          rw [Nat.sub_zero, Nat.sub_zero] at s2
          rw [Nat.sub_zero] at r2
          obtain ⟨L4, hL4⟩ : ∃ L, L = n - (3 + N + 4) := ⟨_, rfl⟩
          obtain ⟨C1, hC1⟩ : ∃ L, L = c - (3 + N) := ⟨_, rfl⟩
          obtain ⟨C3, hC3⟩ : ∃ L, L = c - 3 := ⟨_, rfl⟩
          obtain ⟨C4, hC4⟩ : ∃ L, L = c - (3 + N + 4) := ⟨_, rfl⟩
          have HL4 : Hid (L4 ≤ n) := by show _ ≤ _; omega
          rw [← hL4] at s4 r4
          rw [← hC1] at s1
          rw [← hC3] at s3
          rw [← hC4] at s4
          have e3 : ((3 + N : Nat) : Int) = 3 + (N : Int) := by omega
          have e7 : ((3 + N + 4 : Nat) : Int) = 7 + (N : Int) := by omega
          have e33 : ((3 : Nat) : Int) = 3 := rfl
          rw [e3, e7] at s1
          rw [e3] at s2
          rw [e3, e33] at s3
          rw [e7] at s4
          have hwr : IntKind.i64.wrap (3 + (N : Int)) = 3 + (N : Int) := by rw [IntKind.wrap_i64]; omega
          have hwr7 : IntKind.i64.wrap (7 + (N : Int)) = 7 + (N : Int) := by rw [IntKind.wrap_i64]; omega
          have HC2 : Hid (∀ cc w', Kp (fun _ => False) w w' → Calls Tryd.prog 13 #[.slice p2 (3 + N) cc] w' fun e w'' => e = .returned (.int .u32 ((Crc.sum (xs.take (3 + N)) : Nat) : Int)) ∧ w'' = w') := fun cc w' k => refSum_any p2 (3 + N) cc _ w' (r2.keep0 k) (by omega)
          have HV : Hid (∀ cc w', Kp (fun _ => False) w w' → (convert 22 9 (.slice p1 4 cc)).run Tryd.prog w' = .ok (.string (str ((xs.take (3 + N + 4)).drop (3 + N)))) w') := fun cc w' k => convert_bytes p1 4 cc _ w' (r1.keep0 k)
          have hs := Crc.sum_lt r2.byte
          obtain ⟨s, hS⟩ : ∃ s, s = Crc.sum (xs.take (3 + N)) := ⟨_, rfl⟩
          rw [← hS] at HC2 hs HE
          have HY : Hid (∀ y ∈ (xs.take (3 + N + 4)).drop (3 + N), y < 256) := r1.byte
          obtain ⟨ys, hys⟩ : ∃ ys, ys = (xs.take (3 + N + 4)).drop (3 + N) := ⟨_, rfl⟩
          rw [← hys] at HV HE HY
          have hs' : (s : Int) < 4294967296 := by omega
          have HN3 : Hid (¬ N = 0) := h3
          have HN4 : Hid (¬ xs.length < N + 7) := by show ¬ _; omega
          have hws : IntKind.i64.wrap (s : Int) = (s : Int) := by rw [IntKind.wrap_i64]; omega
          have h4' : decide ((n : Int) - 7 < (N : Int)) = false := by rw [decide_eq_false_iff_not]; omega
          have hn7 : IntKind.i64.wrap ((n : Int) - 7) = (n : Int) - 7 := by rw [IntKind.wrap_i64]; omega
          have HNb : Hid ((N : Int) < 65536) := hNb
          clear hS hys h3 hl hb r1 r2 h e34 e3 e7 e33 hs h4 eN hL4 hC1 hC3 hC4
          go_enter Tryd.func16, Tryd.ntmps16
          go_wp2
          go_quiet (fail)
          obtain ⟨w1, hw1⟩ : ∃ w1, w1 = w.drewN nq := ⟨_, rfl⟩
          rw [← hw1]
          have k1 : Kp (fun _ => False) w w1 := by rw [hw1]; exact (Kp.refl _ _).drewN _
          clear hw1
          go_wp2
          have HBig : Hid (∀ (wb : World) (z : Nat), Ow wb z (.slice (some ⟨z, 0, none⟩) 4 4) (big s 4) → (convert 22 9 (.slice (some ⟨z, 0, none⟩) 4 4)).run Tryd.prog wb = .ok (.string (str (big s 4))) wb) := fun wb z ob => by
            obtain ⟨pb, cb, eb, _, rb, _⟩ := ob.rb (big_byte s 4)
            rw [big_length] at eb rb
            injection eb with eb1 eb2 eb3
            rw [eb1]
            exact convert_bytes _ _ _ _ _ rb
          have cv1 := HV.out C1 w1.drew k1.drew
          go_region_with
            (first
              | (go_at_call 13; refine (HC2.out _ _ k1.drew).mono ?_; rintro e wa ⟨rfl, rfl⟩)
              | (go_at_call 17; refine (big_any s 4 _ (by omega) (by omega)).mono ?_; rintro e wb ⟨rfl, kb, zb, ob⟩
                 have kw := k1.drew.trans kb (fun _ _ e => e)
                 have cv2 := HV.out C1 wb kw
                 have ob' : Ow wb w1.heap.size (.slice (some ⟨w1.heap.size, 0, none⟩) 4 4) (big s 4) := ob
                 have cv3 := HBig.out wb w1.heap.size ob'
                 clear ob ob' zb))
          all_goals
            clear cv1 cv2 cv3 HBig HV HC2 s1 s2 kb hws hn7 or1 hni hNb c0 c1 c2 d3 hn0 hs'
            by_cases hy : ys = big s 4
            · have HE1 : Hid (E = 0) := by rw [HE.out, if_neg HN3.out, if_neg HN4.out, if_neg (by rw [Decidable.not_not]; exact hy)]; exact rfl
              have HB1 : Hid (UB = (xs.take (3 + N)).drop 3) := by rw [HB.out, if_pos HE1.out]; exact rfl
              have HR1 : Hid (UR = xs.drop (3 + N + 4)) := by rw [HR.out, if_pos HE1.out]; exact rfl
              clear HB HR HE HY h4'
              subst hy
              go_simp
              go_wp2
              have HLen : Hid (L4 ≤ 140737488355328 ∧ N ≤ 140737488355328) := by have := hn.out; have := HL4.out; have := HNb.out; exact ⟨by omega, by omega⟩
              have zw := kw.size
              have q3 := r3.keep0 kw
              have q4 := r4.keep0 kw
              clear h0 hpos b1 b2 b0
              go_region_law
                (first
                  | (have ho4 := ho3
                     refine step_append_bytes0 w _ ?_ (by rfl) _ _ (by rfl) _ 0 [] (by rfl) ?_ p4 L4 C4 (xs.drop (3 + N + 4)) (by rfl) ?_ (by have := HLen.out.1; simpa using this) ?_
                     · first | exact k3.alloc _ | exact k3
                     · first
                         | exact own_empty (heap_new _ _) k3.size
                         | exact own_empty ((hk3.block _ (by simp; omega) (by simp)).trans (heap_old_d _ _ _)) (by omega)
                         | exact own_empty ((hk3.block _ (by simp) (by simp)).trans (heap_new1_d _ _ _)) (by omega)
                     · first | exact r4.keep0 (k3.alloc _) | exact r4.keep0 k3
                     intro v5 w5 ho5 k5 hk5 hat5)
                  | (refine step_append_bytes0 w _ ?_ (by rfl) _ _ (by rfl) _ 0 [] (by rfl) ?_ p3 N C3 ((xs.take (3 + N)).drop 3) (by rfl) ?_ (by have := HLen.out.2; simpa using this) ?_
                     · first | exact ((kw.alloc _).alloc _).drew | exact (kw.alloc _).drew | exact (kw.drew.alloc _).alloc _ | exact kw.drew.alloc _
                     · first
                         | exact own_empty (heap_old_d _ _ _) (by omega)
                         | exact own_empty (heap_new1_d _ _ _) (by omega)
                         | exact own_empty (heap_new_d _ _) (by omega)
                     · first | exact r3.keep0 ((kw.alloc _).alloc _).drew | exact r3.keep0 (kw.alloc _).drew | exact r3.keep0 ((kw.drew.alloc _).alloc _) | exact r3.keep0 (kw.drew.alloc _)
                     intro v3 w3 ho3 k3 hk3 hat3))
              all_goals
                have HF : Hid (Ow w5 w.heap.size v3 ((xs.take (3 + N)).drop 3)) := by
                  have ho3' : Ow w3 w.heap.size v3 ((xs.take (3 + N)).drop 3) := by simpa using ho3
                  first
                    | exact ownsRow_keep ho3' hk5 (fun b hb e => by have := hat3 b hb; simp at this; omega)
                    | exact ownsRow_keep (World.ownsRow.alloc ho3' _) hk5 (fun b hb e => by have := (ownBlock_lt ho3' hb).2; omega)
                have HF5 : Hid (Ow w5 w.heap.size v5 (xs.drop (3 + N + 4))) := by
                  have : Ow w5 w.heap.size v5 (xs.drop (3 + N + 4)) := by simpa using ho5
                  exact this
                clear ho3 hk3 hat3 ho5 hk5 hat5 k3 q3 q4 r3 r4 s3 s4 hwr hwr7
                go_simp
                go_wp2
                go_ret3
                exact ⟨_, _, by rw [HE1.out]; rfl, k5, by rw [HB1.out]; exact HF.out, by rw [HR1.out]; exact HF5.out⟩
            · have HE1 : Hid (E = 52) := by rw [HE.out, if_neg HN3.out, if_neg HN4.out, if_pos hy]; exact rfl
              have HB1 : Hid (UB = []) := by rw [HB.out, HE1.out]; exact rfl
              have HR1 : Hid (UR = []) := by rw [HR.out, HE1.out]; exact rfl
              have dz := str_toList_ne HY.out (big_byte s 4) hy
              have dz' : ¬ (str ys).toList = (str (big s 4)).toList := by rw [beq_eq_false_iff_ne] at dz; exact dz
              clear hy HB HR HE HY h4' hwr hwr7 s3 s4
              go_simp
              go_wp2
              go_ret3
              exact ⟨_, _, by rw [HE1.out]; rfl, kw, by rw [HB1.out]; exact World.ownsRow_nil _ _ _ _, by rw [HR1.out]; exact World.ownsRow_nil _ _ _ _⟩
  · have e1 : lkE xs = 51 := by unfold lkE; rw [if_neg (by omega), if_pos (by rw [← hx0]; exact h1)]
    obtain ⟨e2, e3⟩ := bad _ e1 (by omega)
    rw [e1, e2, e3]
    have d1 : ((x0 : Int) == 163) = false := by rw [beq_eq_false_iff_ne]; omega
    clear e1 e2 e3 hl hx0 h1 h0 bad hb h
    go_enter Tryd.func16, Tryd.ntmps16
    go_wp2
    go_ret3
    exact ⟨_, _, rfl, Kp.refl _ _, World.ownsRow_nil _ _ _ _, World.ownsRow_nil _ _ _ _⟩
end Go.Proofs.YtlgockombdjbpaaDoor
