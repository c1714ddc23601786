/- The document's plate (the reference's): how it lies, and the walks of its making and its plain methods. -/
import Derived.Test.YtippipeebkkghaaGreatDoorSc
import Derived.Test.YtippipeebkkghaaGreatDoorTg
namespace Go.Proofs.YtippipeebkkghaaGreatDoor
open Go.RowKit Go.Deep Go.Maps

set_option maxRecDepth 100000 in
set_option maxHeartbeats 800000 in
theorem own_ok (p : Option Addr) (n c : Nat) (xs : List Nat) (w : World) (h : Rb w p n xs) (hn : Hid (n ≤ 140737488355328)) :
    Calls Tryz.prog 111 #[.slice p n c] w fun e w' => ∃ v, e = .returned v ∧ Kp (fun _ => False) w w' ∧ Ow w' w.heap.size v xs := by
  have hr := h.keep0 ((Kp.refl (fun _ => False) w).alloc (.cells #[] 5))
  go_enter Tryz.func111, Tryz.ntmps111
  go_wp2_with (at_builtin; go_must (refine wpList_append_bytes _ rfl _ _ rfl w.heap.size _ [] rfl (empty_own w) p n c xs rfl hr (by have := hn.out; simp only [List.length_nil]; omega) (by simp) ?_); intro v' w3 hown' hk3 hblk3)
  go_ret
  refine ⟨_, rfl, Kp.trans ((Kp.refl _ _).alloc _) hk3 (fun b hb e => ?_), by simpa using hown'⟩
  have e' : some w.heap.size = some b := e
  have := Option.some.inj e'
  omega

set_option maxRecDepth 100000 in
set_option maxHeartbeats 1600000 in
theorem all_ok {w : World} {p : Option Addr} {n c : Nat} {N : Nat → List Nat} (hn : (n : Int) ≤ 1000000) (hr : ∀ r, r < n → ∃ t o, p = some ⟨t, o, none⟩ ∧ ∃ pr k ck, w.cell? ⟨t, o + r, none⟩ = some (.slice pr k ck) ∧ Rb w pr k (N r) ∧ k ≤ 140737488355328) :
    Calls Tryz.prog 69 #[.slice p n c] w fun e w' => ∃ v xs, e = .returned v ∧ Kp (fun _ => False) w w' ∧ Gt w' w.heap.size v n xs N := by
  obtain ⟨ti, hi0, hz0, hz1, hz2⟩ := info_parts info42
  have HR : Hid _ := hr
  clear hr
  go_enter Tryz.func69, Tryz.ntmps69
  go_wp2
  go_loopg [3, 8] n (fun gk v i wr => ∃ (k : Nat) (v' : Value) (xs : List Value), k ≤ n ∧ gk = n - k ∧ i = .int .i64 k ∧ v' = v ∧ Kp (fun _ => False) w wr ∧ Hid (Gt wr w.heap.size v' k xs N))
  case atStart => exact ⟨0, _, [], Nat.zero_le _, rfl, rfl, rfl, Kp.refl _ _, World.ownsRow_nil _ _ _ _, fun r hr => absurd hr (Nat.not_lt_zero _)⟩
  case round =>
    obtain ⟨k, v, xs, hk, rfl, rfl, rfl, hK, hG⟩ := hrel
    by_cases hlt : (k : Int) < (n : Int)
    · obtain ⟨t, o, rfl, pr, kk, ck, hc, hRb, hkk⟩ := HR.out k (by omega)
      have c1 := hK.cellv hc id
      have HC : Hid (∀ c, Calls _ _ #[.slice _ _ c] wr _) := fun c => own_ok pr kk c (N k) wr (hRb.keep0 hK) hkk
      have hwz := hK.size
      have HB : Hid (∀ x ∈ N k, x < 256) := hRb.byte
      clear hc hRb hkk
      go_wp2_with fail
      refine (HC.out _).mono ?_
      rintro e wq ⟨vq, rfl, kq, oq⟩
      have hwq := kq.size
      have hKq := hK.trans kq (fun _ _ e => e)
      have HOq : Hid (Ow wq wr.heap.size vq (N k)) := oq
      have hOq := ownsRow_keep hG.out.own kq (fun _ _ => id)
      have hxl : Hid (xs.length = k * 1) := hG.out.own.1
      obtain ⟨pq, cq, ev, _, _, _⟩ := oq.rb HB.out
      obtain ⟨lq, hlq⟩ : ∃ l, l = (N k).length := ⟨_, rfl⟩
      rw [← hlq] at ev
      subst ev
      clear HC c1 oq hlq
      go_wp2_with (at_builtin; go_must (refine wpList_append_own_at _ rfl _ _ 90 rfl w.heap.size 75 ti (.slice none 0 0) 1 24 Tryz.underlying90 hi0 hz0 hz1 hz2 rfl (by decide) _ _ _ rfl (hOq.alloc _) ⟨wq.heap.size, 0, none⟩ 1 1 [.slice pq lq cq] rfl rfl (cell_one_new _ _ _) (fun x hx => by simp at hx; subst hx; rfl) (by unfold maxLen; omega) (by omega) (by simp; omega) ?_); intro v' w3 hown' hgrow3 hnil3 hblk3)
      have HK3 : Hid (Kp (fun _ => False) w w3) := Kp.trans (hKq.alloc _) (grownBy_kp hgrow3) (fun b hb e => by have := ownBlock_lt hOq e; omega)
      have HG3 : Hid (Gt w3 w.heap.size v' (k + 1) (xs ++ [.slice pq lq cq]) N) := Gt.step hG.out (by have := hxl.out; omega) hwz kq HOq.out HB.out ((Kp.refl _ _).alloc _) hown' hgrow3 hblk3
      clear hown' hgrow3 hnil3 hblk3 hG HOq hOq
      go_roundg (n - (k + 1))
      case rel => exact ⟨k + 1, v', _, by omega, rfl, by go_num, rfl, HK3.out, HG3.out⟩
      case measure => omega
    · have e : n = k := by omega
      subst e
      clear HR
      go_wp2
      go_ret
      exact ⟨_, rfl, hK, xs, hG.out⟩


/-- texts of 64 bytes each at row t, whose cells lie at no block of X -/
def Tr (w : World) (t n : Nat) (N : Nat → List Nat) (X : Nat → Prop) : Prop :=
  ∃ cp V, n ≤ cp ∧ w.rowIs t 75 cp V ∧ ∀ r, r < n → ∃ bb o c, V r = .slice (some ⟨bb, o, none⟩) 64 c ∧ 64 ≤ c ∧ Rb w (some ⟨bb, o, none⟩) 64 (N r) ∧ ¬ X bb
theorem Tr.keep {S X : Nat → Prop} {w w' : World} {t n : Nat} {N : Nat → List Nat} (h : Tr w t n N X) (k : Kp S w w') (hS : ∀ z, S z → X z) (ht : ¬ S t) : Tr w' t n N X := by
  obtain ⟨cp, V, h1, h2, h3⟩ := h
  refine ⟨cp, V, h1, k.row h2 ht, fun r hr => ?_⟩
  obtain ⟨bb, o, c, x1, x2, x3, x4⟩ := h3 r hr
  exact ⟨bb, o, c, x1, x2, x3.keep k (fun a ha _ e => by cases ha; exact x4 (hS _ e)), x4⟩
theorem Tr.lt {X : Nat → Prop} {w : World} {t n : Nat} {N : Nat → List Nat} (h : Tr w t n N X) : t < w.heap.size := by
  obtain ⟨cp, V, h1, h2, h3⟩ := h
  exact h2.lt
theorem Tr.congr {X : Nat → Prop} {w : World} {t n : Nat} {N N' : Nat → List Nat} (h : Tr w t n N X) (e : ∀ r, r < n → N r = N' r) : Tr w t n N' X := by
  obtain ⟨cp, V, h1, h2, h3⟩ := h
  refine ⟨cp, V, h1, h2, fun r hr => ?_⟩
  rw [← e r hr]
  exact h3 r hr
theorem Tr.put {X : Nat → Prop} {w w' : World} {t n : Nat} {N : Nat → List Nat} {i : Nat} {v : Value} {xs : List Nat} (h : Tr w t n N X) (hX : X t) (hw : w' = w.setCell ⟨t, i, none⟩ v) (hv : ∃ bb o c, v = .slice (some ⟨bb, o, none⟩) 64 c ∧ 64 ≤ c ∧ Rb w (some ⟨bb, o, none⟩) 64 xs ∧ ¬ X bb) :
    Tr w' t n (fun j => if j = i then xs else N j) X := by
  have ks : Kp (fun x => x = t) w w' := by rw [hw]; exact (Kp.refl (fun x => x = t) w).setCell (a := ⟨t, i, none⟩) (fun _ => rfl) _
  obtain ⟨cp, V, h1, h2, h3⟩ := h
  refine ⟨cp, _, h1, by rw [hw]; exact h2.set i v, fun r hr => ?_⟩
  by_cases e : r = i
  · simp only [if_pos e]
    obtain ⟨bb, o, c, x1, x2, x3, x4⟩ := hv
    exact ⟨bb, o, c, x1, x2, x3.keep ks (fun a ha _ e => by cases ha; exact x4 (by simp only at e; rw [e]; exact hX)), x4⟩
  · simp only [if_neg e]
    obtain ⟨bb, o, c, x1, x2, x3, x4⟩ := h3 r hr
    exact ⟨bb, o, c, x1, x2, x3.keep ks (fun a ha _ e => by cases ha; exact x4 (by simp only at e; rw [e]; exact hX)), x4⟩
theorem Tr.rt {X : Nat → Prop} {w : World} {t n : Nat} {N : Nat → List Nat} (h : Tr w t n N X) : Rt w t n N := by
  obtain ⟨cp, V, h1, h2, h3⟩ := h
  exact ⟨cp, V, h1, h2, fun r hr => by obtain ⟨bb, o, c, h1, _, h2, _⟩ := h3 r hr; exact ⟨_, _, c, h1, h2⟩⟩
theorem Tr.of_gt {X : Nat → Prop} {w : World} {base n : Nat} {v : Value} {xs : List Value} {N : Nat → List Nat} (h : Gt w base v n xs N) (hn : 0 < n) (hN : ∀ r, r < n → (N r).length = 64) : ∃ t c, v = .slice (some ⟨t, 0, none⟩) n c ∧ n ≤ c ∧ base ≤ t ∧ t < w.heap.size ∧ ((∀ z, base ≤ z → z < w.heap.size → X z → z = t) → Tr w t n N X) := by
  rcases h.own.2 with ⟨_, e2⟩ | ⟨g, cap, cur, e, hg, hh, h1, h2, h3, h4⟩
  · omega
  · subst e
    refine ⟨g, cap, rfl, h1, hg, (Array.getElem?_eq_some_iff.1 hh).1, fun hX => ⟨cap, fun j => (cur[j]?).getD (.slice none 0 0), h1, ⟨cur, hh, by omega, fun j hj => ?_⟩, fun r hr => ?_⟩⟩
    · dsimp only; rw [Array.getElem?_eq_getElem (by omega)]; rfl
    · obtain ⟨p, m, c, ex, rb, hc, hp⟩ := h.txt r hr
      have hm : m = 64 := by rw [← rb.len]; exact hN r hr
      subst hm
      obtain ⟨bb, o, rfl, _⟩ := rb.pt (by omega)
      have h5 : (cur.toList.take (n * 1))[r]? = xs[r]? := by rw [h4]
      rw [List.getElem?_take_of_lt (by omega), Array.getElem?_toList, ex] at h5
      have hb := hp _ rfl
      have hne : bb ≠ g := fun e => hb.2.2 (by rw [e]; rfl)
      exact ⟨bb, o, c, by dsimp only; rw [h5]; rfl, hc, rb, fun hx => hne (hX bb hb.1 hb.2.1 hx)⟩

/-- the blocks of a reference's plate that are written, and Y -/
def Xs (x tb tw td : Nat) (Y : Nat → Prop) (z : Nat) : Prop := z = x ∨ z = tb ∨ z = tw ∨ z = td ∨ Y z
/-- a reference's plate at block x: durable texts at row tb, what they are now at tw, which are dirty at td -/
structure Rp (w : World) (x tb tw td n : Nat) (Bf Wf : Nat → List Nat) (df : Nat → Bool) (Y : Nat → Prop) : Prop where
  c0 : ∃ c, n ≤ c ∧ w.cell? ⟨x, 0, none⟩ = some (.slice (some ⟨tb, 0, none⟩) n c)
  c1 : ∃ c, n ≤ c ∧ w.cell? ⟨x, 1, none⟩ = some (.slice (some ⟨tw, 0, none⟩) n c)
  c2 : ∃ c, n ≤ c ∧ w.cell? ⟨x, 2, none⟩ = some (.slice (some ⟨td, 0, none⟩) n c)
  c3 : w.cell? ⟨x, 3, none⟩ = some (.bool false)
  fz : ∀ j, w.frozen? ⟨x, j, none⟩ = false
  B : Tr w tb n Bf (Xs x tb tw td Y)
  W : Tr w tw n Wf (Xs x tb tw td Y)
  D : ∃ (cp : Nat) (f : Nat → Value), n ≤ cp ∧ w.rowIs td 4 cp (fun j => if j < n then .bool (df j) else f j)
  ne : x ≠ tb ∧ x ≠ tw ∧ x ≠ td ∧ tb ≠ tw ∧ tb ≠ td ∧ tw ≠ td
  n1 : 1 ≤ n
  n2 : n ≤ 8192
theorem Rp.lt {w : World} {x tb tw td n : Nat} {Bf Wf : Nat → List Nat} {df : Nat → Bool} {Y : Nat → Prop} (h : Rp w x tb tw td n Bf Wf df Y) : x < w.heap.size ∧ tb < w.heap.size ∧ tw < w.heap.size ∧ td < w.heap.size := by
  obtain ⟨cp, f, _, hd⟩ := h.D
  exact ⟨World.block_lt_of_cell? w _ h.c3, h.B.lt, h.W.lt, hd.lt⟩
theorem Rp.keep {S : Nat → Prop} {w w' : World} {x tb tw td n : Nat} {Bf Wf : Nat → List Nat} {df : Nat → Bool} {Y : Nat → Prop} (h : Rp w x tb tw td n Bf Wf df Y) (k : Kp S w w') (hS : ∀ z, S z → Y z) (h0 : ¬ S x) (h1 : ¬ S tb) (h2 : ¬ S tw) (h3 : ¬ S td) : Rp w' x tb tw td n Bf Wf df Y := by
  obtain ⟨a0, b0, e0⟩ := h.c0
  obtain ⟨a1, b1, e1⟩ := h.c1
  obtain ⟨a2, b2, e2⟩ := h.c2
  obtain ⟨cp, f, b3, hd⟩ := h.D
  have hX : ∀ z, S z → Xs x tb tw td Y z := fun z hz => Or.inr (Or.inr (Or.inr (Or.inr (hS z hz))))
  exact ⟨⟨a0, b0, k.cellv e0 h0⟩, ⟨a1, b1, k.cellv e1 h0⟩, ⟨a2, b2, k.cellv e2 h0⟩, k.cellv h.c3 h0, fun j => by rw [World.frozen?_of_block (w := w) (k.block x h.lt.1 h0)]; exact h.fz j, h.B.keep k hX h1, h.W.keep k hX h2, ⟨cp, f, b3, k.row hd h3⟩, h.ne, h.n1, h.n2⟩

set_option maxRecDepth 100000 in
set_option maxHeartbeats 400000 in
theorem there_ok {w : World} {x tb tw td n : Nat} {Bf Wf : Nat → List Nat} {df : Nat → Bool} {Y : Nat → Prop} (h : Rp w x tb tw td n Bf Wf df Y) (i : Int) :
    Calls Tryz.prog 200 #[.pointer (some ⟨x, 0, none⟩), .int .i64 i] w fun e w' => e = .returned (.bool (decide (0 ≤ i ∧ i < (n : Int)))) ∧ w' = w := by
  obtain ⟨c, hc, c1⟩ := h.c1
  clear h
  by_cases h0 : 0 ≤ i
  · by_cases h1 : i < (n : Int)
    · go_enter Tryz.func200, Tryz.ntmps200
      go_wp2
      go_ret
      exact ⟨by rw [decide_eq_true ⟨h0, h1⟩]; rfl, rfl⟩
    · go_enter Tryz.func200, Tryz.ntmps200
      go_wp2
      go_ret
      exact ⟨by rw [decide_eq_false (by omega)]; rfl, rfl⟩
  · go_enter Tryz.func200, Tryz.ntmps200
    go_wp2
    go_ret
    exact ⟨by rw [decide_eq_false (by omega)]; rfl, rfl⟩

theorem Tr.at {X : Nat → Prop} {w : World} {t n : Nat} {N : Nat → List Nat} (h : Tr w t n N X) {i : Nat} (hi : i < n) : w.frozen? ⟨t, i, none⟩ = false ∧ ∃ bb o c, w.cell? ⟨t, i, none⟩ = some (.slice (some ⟨bb, o, none⟩) 64 c) ∧ 64 ≤ c ∧ Rb w (some ⟨bb, o, none⟩) 64 (N i) ∧ ¬ X bb := by
  obtain ⟨cp, V, h1, h2, h3⟩ := h
  obtain ⟨bb, o, c, x1, x2, x3, x4⟩ := h3 i hi
  exact ⟨h2.frozen i, bb, o, c, by rw [h2.cell (by omega), x1], x2, x3, x4⟩

theorem range_filter_succ (f : Nat → Bool) (k : Nat) : (List.range (k + 1)).filter f = (List.range k).filter f ++ (if f k then [k] else []) := by
  rw [List.range_succ, List.filter_append]
  cases h : f k <;> simp [h]
/-- the numbers below k that are marked -/
def mks (df : Nat → Bool) (k : Nat) : List Int := List.map (fun i : Nat => (i : Int)) ((List.range k).filter df)
theorem mks_yes {df : Nat → Bool} {k : Nat} (h : df k = true) : mks df (k + 1) = mks df k ++ [(k : Int)] := by
  unfold mks; rw [range_filter_succ, h, List.map_append]; rfl
theorem mks_no {df : Nat → Bool} {k : Nat} (h : df k = false) : mks df (k + 1) = mks df k := by
  unfold mks; rw [range_filter_succ, h]; simp
theorem mks_len (df : Nat → Bool) (k : Nat) : (mks df k).length ≤ k := by
  unfold mks
  rw [List.length_map]
  exact Nat.le_trans (List.length_filter_le _ _) (by rw [List.length_range]; omega)
theorem info_i : (Tryz.prog.info? 3).map (fun i => (i.zero, i.size, i.bytes)) = some (some (.int .i64 0), 1, 8) := by kernel_rfl

set_option maxRecDepth 100000 in
set_option maxHeartbeats 800000 in
theorem refDirty_ok {w : World} {x tb tw td n : Nat} {Bf Wf : Nat → List Nat} {df : Nat → Bool} {Y : Nat → Prop} (h : Rp w x tb tw td n Bf Wf df Y) :
    Calls Tryz.prog 202 #[.pointer (some ⟨x, 0, none⟩)] w fun e w' => ∃ v, e = .returned v ∧ Kp (fun _ => False) w w' ∧ Is w' w.heap.size v (mks df n) := by
  obtain ⟨c, hc, c2⟩ := h.c2
  obtain ⟨cp, f, hcp, hd⟩ := h.D
  have hn2 : (n : Int) ≤ 8192 := by have := h.n2; omega
  obtain ⟨ti, hi0, hz0, hz1, hz2⟩ := info_parts info_i
  have HD : Hid (w.rowIs td 4 cp (fun j => if j < n then .bool (df j) else f j)) := hd
  clear h hd
  go_enter Tryz.func202, Tryz.ntmps202
  go_wp2
  go_loopg [3, 11] n (fun gk kv i wr => ∃ (k : Nat) (kv' : Value), k ≤ n ∧ gk = n - k ∧ i = .int .i64 k ∧ kv' = kv ∧ Kp (fun _ => False) w wr ∧ Hid (Is wr w.heap.size kv' (mks df k)))
  case atStart => exact ⟨0, _, Nat.zero_le _, rfl, rfl, rfl, Kp.refl _ _, World.ownsRow_nil _ _ _ _⟩
  case round =>
    obtain ⟨k, kv, hk, rfl, rfl, rfl, hK, hIs⟩ := hrel
    by_cases hlt : (k : Int) < (n : Int)
    · have dc := hK.cellv (HD.out.cell (i := k) (by omega)) id
      rw [if_pos (show k < n by omega)] at dc
      have hwz := hK.size
      cases hdk : df k with
      | true =>
        rw [hdk] at dc
        have HOw : Hid (wr.ownsRow w.heap.size 3 1 kv (mks df k).length ((mks df k).map encZ)) := hIs.out
        obtain ⟨kl, hkl⟩ : ∃ kl, kl = (mks df k).length := ⟨_, rfl⟩
        have hkl6 : kl ≤ 8192 := by rw [hkl]; have := mks_len df k; omega
        rw [← hkl] at HOw
        have HKl : Hid (kl = (mks df k).length) := hkl
        have HM : Hid (mks df (k + 1) = mks df k ++ [(k : Int)]) := mks_yes hdk
        clear hkl hdk
        go_wp2_with (at_builtin; go_must (refine wpList_append_own_at _ rfl _ _ 29 rfl w.heap.size 3 ti (.int .i64 0) 1 8 Tryz.underlying29 hi0 hz0 hz1 hz2 rfl (by decide) _ _ _ rfl (HOw.out.alloc _) ⟨wr.heap.size, 0, none⟩ 1 1 [.int .i64 (k : Int)] rfl rfl (cell_one_new _ _ _) (fun x hx => by simp at hx; subst hx; rfl) (by unfold maxLen; omega) (by omega) (by simp; omega) ?_); intro v' w3 hown' hgrow3 hnil3 hblk3)
        have HK3 : Hid (Kp (fun _ => False) w w3) := (hK.alloc _).trans (grownBy_kp hgrow3) (fun x hx e => by have := (ownBlock_lt HOw.out e).1; omega)
        have HI3 : Hid (Is w3 w.heap.size v' (mks df (k + 1))) := by
          have e1 : (mks df (k + 1)).length = kl + 1 := by rw [HM.out, List.length_append, HKl.out]; rfl
          have e2 : (mks df (k + 1)).map encZ = (mks df k).map encZ ++ [.int .i64 (k : Int)] := by rw [HM.out, List.map_append]; rfl
          show w3.ownsRow _ _ _ _ _ _
          rw [e1, e2]
          exact hown'
        clear hown' hgrow3 hnil3 hblk3 HOw hIs
        go_roundg (n - (k + 1))
        case rel => exact ⟨k + 1, v', by omega, rfl, by go_num, rfl, HK3.out, HI3.out⟩
        case measure => omega
      | false =>
        rw [hdk] at dc
        have HI3 : Hid (Is wr w.heap.size kv (mks df (k + 1))) := by
          have h1 := hIs.out
          rw [← mks_no hdk] at h1
          exact h1
        clear hdk hIs
        go_wp2
        go_roundg (n - (k + 1))
        case rel => exact ⟨k + 1, kv, by omega, rfl, by go_num, rfl, hK, HI3.out⟩
        case measure => omega
    · have e : n = k := by omega
      subst e
      clear HD
      go_wp2
      go_ret
      exact ⟨_, rfl, hK, hIs.out⟩
end Go.Proofs.YtippipeebkkghaaGreatDoor
