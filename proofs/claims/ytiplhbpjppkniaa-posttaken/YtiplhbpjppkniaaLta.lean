/- The walk of the law PostTaken: what is taken was sent. -/
import Derived.Test.YtiplhbpjppkniaaQf
namespace Go.Proofs.Ytiplhbpjppkniaa
set_option linter.unusedVariables false
open Go.RowKit Go.Deep Go.Maps

def m5 (n : Int) : Nat := ((n % 18446744073709551616) % 5).toNat
theorem m5_lt (n : Int) : m5 n < 5 := by unfold m5; omega
theorem m5_eq (n : Int) : wrap64 ((IntKind.u64.wrap n).tmod 5) = (m5 n : Int) := by
  have h : IntKind.u64.wrap n = n % 18446744073709551616 := by simp [IntKind.wrap, IntKind.bits, IntKind.signed]
  rw [h]
  have h0 : 0 ≤ n % 18446744073709551616 := Int.emod_nonneg _ (by omega)
  rw [Int.tmod_eq_emod_of_nonneg h0]
  unfold m5 wrap64
  omega
theorem sizeDo : (Try.prog.info? 40).map (·.size) = some 26 := by kernel_rfl
theorem descDo : ∃ d, Try.prog.underlying 40 = some d ∧ d.isRow = true := ⟨_, Try.underlying40, rfl⟩
abbrev zeroDo : List Value := .int .i64 0 :: .int .i64 0 :: (nilArr 0).toList
/-- what is on the way behind k calls: each was sent -/
structure Tk (w : World) (p m q n c k : Nat) (T : Nat → Option Value) (op : Nat → Int) : Prop where
  ps : Ps w p m q n c T
  q : q ≤ k
  n : n ≤ k
  c : c ≤ k
  t : ∀ j v, T j = some v → ∃ i : Nat, v = nilMsg (i : Int) ∧ i < k ∧ m5 (op i) ≤ 1

theorem Tz_some {T : Nat → Option Value} {x : Int} {v : Value} (h : Tz T x = some v) : ∃ j : Nat, x = (j : Int) ∧ T j = some v := by
  unfold Tz at h
  by_cases h0 : 0 ≤ x
  · rw [if_pos h0] at h
    exact ⟨x.toNat, by omega, h⟩
  · rw [if_neg h0] at h; cases h
theorem Ps.pos {w : World} {p m q n c j : Nat} {T : Nat → Option Value} {v : Value} (h : Ps w p m q n c T) (hv : T j = some v) : 1 ≤ c := by
  obtain ⟨D, hown, h1, h2, h3, h4⟩ := h.mp
  have hj : j < n + 1 := by
    by_cases hi : j < n + 1
    · exact hi
    · rw [h3 j (by omega)] at hv; cases hv
  have hh := ((h1 j hj).2 v hv).1
  have := size_del (hown.tidy intLaw) (k := ik j)
  rw [hh, h4] at this
  simp at this
  omega
theorem Tk.keep {w w' : World} {p m q n c k : Nat} {T : Nat → Option Value} {op : Nat → Int} (h : Tk w p m q n c k T op) (kk : Kp (fun _ => False) w w') : Tk w' p m q n c k T op := ⟨h.ps.keep kk id id, h.q, h.n, h.c, h.t⟩

set_option maxRecDepth 100000 in
set_option maxHeartbeats 8000000 in
theorem postTaken_walk (v : Value) (L : Nat) (w : World) (hv : Dqs w v L) :
    Calls Try.prog 4 #[v] w fun e w' => e = .returned (.bool true) ∧ Kp (fun _ => False) w w' := by
  obtain ⟨pa, cap, op, ii, rfl, hd, hL⟩ := hv
  have HD : Hid (Dq w pa L op ii) := hd
  have HL : Hid ((L : Int) ≤ 9223372036854775807) := hL
  have HNw : Hid (∀ u, Calls _ _ _ u _) := pnew_ok
  clear hd hL
  go_enter Try.func4, Try.ntmps4
  go_wp2_with (go_at_call 7; refine (HNw.out _).mono ?_; rintro e w1 ⟨p, m, rfl, k1, hp, hm, hP⟩)
  have HTk0 : Hid (Tk w1 p m 0 0 0 0 (fun _ => none) op) := ⟨hP, Nat.le_refl _, Nat.le_refl _, Nat.le_refl _, fun j v h => by cases h⟩
  have HPM : Hid (w.heap.size ≤ p ∧ w.heap.size ≤ m) := ⟨hp, hm⟩
  clear hP hp hm HNw
  go_loopg [18, 4] L (fun gk i x wr => ∃ (k q n c : Nat) (T : Nat → Option Value), k ≤ L ∧ k ≤ 61 ∧ gk = L - k ∧ i = .int .i64 k ∧ x = .int .i64 c ∧ Kp (fun _ => False) w wr ∧ Hid (Tk wr p m q n c k T op))
  case atStart => exact ⟨0, 0, 0, 0, _, Nat.zero_le _, by omega, rfl, rfl, rfl, k1, HTk0⟩
  case round =>
    obtain ⟨k, q, n, c, T, hk, hk61, rfl, rfl, rfl, kr, HTr⟩ := hrel
    clear HTk0 k1
    have hki : (k : Int) ≤ 61 := by omega
    by_cases hlt : (k : Int) < (L : Int)
    · obtain ⟨b, o, cs, rfl, hrg, hc24, hwf, hone⟩ := (HD.out.keep kr) k (by omega)
      have HW : Hid ((Lit.int .i64 (ii k)).wf = true) := hwf
      have HC26 : Hid ((.int .i64 (op k) :: .int .i64 (ii k) :: cs : List Value).length = 26) := by show _ = _; simp [hc24]
      have HO26 : Hid ((.int .i64 (op k) :: .int .i64 (ii k) :: cs : List Value).toArray.all (·.oneCell') = true) := all_oneCell_toArray (fun x hx => by
        rcases List.mem_cons.1 hx with rfl | hx
        · rfl
        · rcases List.mem_cons.1 hx with rfl | hx
          · rfl
          · exact hone x hx)
      have HRg : Hid (wr.rangeAt b (o + k * 26) (.int .i64 (op k) :: .int .i64 (ii k) :: cs)) := hrg
      obtain ⟨d, hd1, hd2⟩ := descDo
      have hm5 := m5_eq (op k)
      have hm5l := m5_lt (op k)
      obtain ⟨t, ht⟩ : ∃ t, t = m5 (op k) := ⟨_, rfl⟩
      have HTt : Hid (t = m5 (op k)) := ht
      rw [← ht] at hm5 hm5l
      clear hrg hc24 hwf hone ht
      by_cases hk60 : (k : Int) ≤ 60
      · have d60 : decide ((60 : Int) < (k : Int)) = false := by simp; omega
        have ht5 : t = 0 ∨ t = 1 ∨ t = 2 ∨ t = 3 ∨ t = 4 := by omega
        rcases ht5 with rfl | rfl | rfl | rfl | rfl
        · have hm5' : wrap64 ((IntKind.u64.wrap (op k)).tmod 5) = (0 : Int) := hm5
          clear hm5 hm5l
          have hci : (c : Int) ≤ 61 := by have := HTr.out.c; omega
          go_wp2_with (first
            | (refine wpList_load_mid rfl 40 _ rfl b (o + k * 26) rfl _ d HRg.out hd1 hd2 (by rw [sizeDo, HC26.out]) ?_)
            | (refine wpList_store_all rfl 40 _ _ rfl 26 wr.heap.size zeroDo (.int .i64 (op k) :: .int .i64 (ii k) :: cs) rfl rfl (by exact Lv.new wr _ _) sizeDo rfl HC26.out HO26.out ?_; intro u2 hl2 k2; have c0 : u2.cell? ⟨wr.heap.size, 0, none⟩ = some (.int .i64 (op k)) := hl2.cell (j := 0) rfl; have c1 : u2.cell? ⟨wr.heap.size, 1, none⟩ = some (.int .i64 (ii k)) := hl2.cell (j := 1) rfl; have ku2 : Kp (fun _ => False) wr u2 := ((Kp.refl (fun _ => False) wr).alloc _).trans k2 (fun b hb e => by omega); have HT2 : Hid (Tk u2 p m q n c k T op) := HTr.out.keep ku2; clear hl2 k2)
            | (go_at_call 9; refine (send_ok HT2.out.ps (by have := HT2.out.n; omega) (by have := HT2.out.q; omega) (by have := HT2.out.c; omega) (nilMsg (k : Int)) (sh_nil _) (fun v _ => v = nilMsg (k : Int)) (cl_nil (k : Int) u2 _) (fun v' x y h _ _ => h)).mono ?_; rintro e w3 ⟨rfl, k3, v3, hs3, hv3, hP3⟩))
          have HT3 : Hid (Tk w3 p m (q + 1) (n + 1) (c + 1) (k + 1) (fun j => if j = n + 1 then some v3 else T j) op) := by
            have h2 := HT2.out
            refine ⟨hP3, by have := h2.q; omega, by have := h2.n; omega, by have := h2.c; omega, fun j v hv => ?_⟩
            by_cases e : j = n + 1
            · rw [if_pos e] at hv
              injection hv with hv
              subst hv
              exact ⟨k, hv3, by omega, by rw [← HTt.out]; omega⟩
            · rw [if_neg e] at hv
              obtain ⟨i, h1, h3, h4⟩ := h2.t j v hv
              exact ⟨i, h1, by omega, h4⟩
          have k03 : Kp (fun _ => False) w w3 := (kr.trans ku2 (fun _ _ e => e)).trans k3 (fun b hb e => by have := HPM.out; omega)
          have hni : (n : Int) ≤ 61 := by have := HT2.out.n; omega
          clear hP3 hv3 hs3 k3
          go_roundg (L - (k + 1))
          case rel => exact ⟨k + 1, q + 1, n + 1, c + 1, _, by omega, by omega, rfl, by go_num, by go_num, k03, HT3⟩
          case measure => omega
        · have hm5' : wrap64 ((IntKind.u64.wrap (op k)).tmod 5) = (1 : Int) := hm5
          clear hm5 hm5l
          have hci : (c : Int) ≤ 61 := by have := HTr.out.c; omega
          go_wp2_with (first
            | (refine wpList_load_mid rfl 40 _ rfl b (o + k * 26) rfl _ d HRg.out hd1 hd2 (by rw [sizeDo, HC26.out]) ?_)
            | (refine wpList_store_all rfl 40 _ _ rfl 26 wr.heap.size zeroDo (.int .i64 (op k) :: .int .i64 (ii k) :: cs) rfl rfl (by exact Lv.new wr _ _) sizeDo rfl HC26.out HO26.out ?_; intro u2 hl2 k2; have c0 : u2.cell? ⟨wr.heap.size, 0, none⟩ = some (.int .i64 (op k)) := hl2.cell (j := 0) rfl; have c1 : u2.cell? ⟨wr.heap.size, 1, none⟩ = some (.int .i64 (ii k)) := hl2.cell (j := 1) rfl; have ku2 : Kp (fun _ => False) wr u2 := ((Kp.refl (fun _ => False) wr).alloc _).trans k2 (fun b hb e => by omega); have HT2 : Hid (Tk u2 p m q n c k T op) := HTr.out.keep ku2; clear hl2 k2)
            | (go_at_call 9; refine (send_ok HT2.out.ps (by have := HT2.out.n; omega) (by have := HT2.out.q; omega) (by have := HT2.out.c; omega) (nilMsg (k : Int)) (sh_nil _) (fun v _ => v = nilMsg (k : Int)) (cl_nil (k : Int) u2 _) (fun v' x y h _ _ => h)).mono ?_; rintro e w3 ⟨rfl, k3, v3, hs3, hv3, hP3⟩))
          have HT3 : Hid (Tk w3 p m (q + 1) (n + 1) (c + 1) (k + 1) (fun j => if j = n + 1 then some v3 else T j) op) := by
            have h2 := HT2.out
            refine ⟨hP3, by have := h2.q; omega, by have := h2.n; omega, by have := h2.c; omega, fun j v hv => ?_⟩
            by_cases e : j = n + 1
            · rw [if_pos e] at hv
              injection hv with hv
              subst hv
              exact ⟨k, hv3, by omega, by rw [← HTt.out]; omega⟩
            · rw [if_neg e] at hv
              obtain ⟨i, h1, h3, h4⟩ := h2.t j v hv
              exact ⟨i, h1, by omega, h4⟩
          have k03 : Kp (fun _ => False) w w3 := (kr.trans ku2 (fun _ _ e => e)).trans k3 (fun b hb e => by have := HPM.out; omega)
          have hni : (n : Int) ≤ 61 := by have := HT2.out.n; omega
          clear hP3 hv3 hs3 k3
          go_roundg (L - (k + 1))
          case rel => exact ⟨k + 1, q + 1, n + 1, c + 1, _, by omega, by omega, rfl, by go_num, by go_num, k03, HT3⟩
          case measure => omega
        · cases hz : Tz T (ii k) with
          | none =>
            have HZ : Hid (Tz T (ii k) = none) := hz
            clear hz
            have hm5' : wrap64 ((IntKind.u64.wrap (op k)).tmod 5) = (2 : Int) := hm5
            clear hm5 hm5l
            have hci : (c : Int) ≤ 61 := by have := HTr.out.c; omega
            go_wp2_with (first
              | (refine wpList_load_mid rfl 40 _ rfl b (o + k * 26) rfl _ d HRg.out hd1 hd2 (by rw [sizeDo, HC26.out]) ?_)
              | (refine wpList_store_all rfl 40 _ _ rfl 26 wr.heap.size zeroDo (.int .i64 (op k) :: .int .i64 (ii k) :: cs) rfl rfl (by exact Lv.new wr _ _) sizeDo rfl HC26.out HO26.out ?_; intro u2 hl2 k2; have c0 : u2.cell? ⟨wr.heap.size, 0, none⟩ = some (.int .i64 (op k)) := hl2.cell (j := 0) rfl; have c1 : u2.cell? ⟨wr.heap.size, 1, none⟩ = some (.int .i64 (ii k)) := hl2.cell (j := 1) rfl; have ku2 : Kp (fun _ => False) wr u2 := ((Kp.refl (fun _ => False) wr).alloc _).trans k2 (fun b hb e => by omega); have HT2 : Hid (Tk u2 p m q n c k T op) := HTr.out.keep ku2; clear hl2 k2)
              | (go_at_call 12; refine (take_none HT2.out.ps (ii k) HW.out HZ.out).mono ?_; rintro e w3 ⟨rfl, k3⟩)
              | (refine wpList_store_all rfl 38 _ _ rfl 24 w3.heap.size (nilArr 0).toList (nilArr 0).toList rfl rfl (by exact Lv.new w3 _ _) sizeMsg rfl rfl (nil_one 0) ?_; intro u4 hl4 k4; have ku4 : Kp (fun _ => False) w3 u4 := ((Kp.refl (fun _ => False) w3).alloc _).trans k4 (fun b hb e => by omega); clear hl4 k4))
            have HT3 : Hid (Tk u4 p m q n c (k + 1) T op) := by
              have h2 := (HT2.out.keep k3).keep ku4
              refine ⟨h2.ps, by have := h2.q; omega, by have := h2.n; omega, by have := h2.c; omega, fun x v hv => ?_⟩
              obtain ⟨i, h1, h3, h4⟩ := h2.t x v hv
              exact ⟨i, h1, by omega, h4⟩
            have k03 : Kp (fun _ => False) w u4 := ((kr.trans ku2 (fun _ _ e => e)).trans k3 (fun _ _ e => e)).trans ku4 (fun _ _ e => e)
            go_roundg (L - (k + 1))
            case rel => exact ⟨k + 1, q, n, c, T, by omega, by omega, rfl, by go_num, rfl, k03, HT3⟩
            case measure => omega
          | some vv =>
            obtain ⟨j, hjk, hTj⟩ := Tz_some hz
            obtain ⟨i, rfl, hik, hi1⟩ := HTr.out.t j vv hTj
            have HJ : Hid (ii k = (j : Int)) := hjk
            have HTj : Hid (T j = some (nilMsg (i : Int))) := hTj
            have HI : Hid (i < k ∧ m5 (op i) ≤ 1) := ⟨hik, hi1⟩
            clear hz hjk hTj hik hi1
            have hmi := m5_eq (op i)
            obtain ⟨s, hs⟩ : ∃ s, s = m5 (op i) := ⟨_, rfl⟩
            have hs1 : (s : Int) ≤ 1 := by have := HI.out; omega
            have hikn : (i : Int) < (k : Int) := by have := HI.out; omega
            have hiL : (i : Int) < (L : Int) := by omega
            rw [← hs] at hmi
            have dd1 : decide ((k : Int) ≤ (i : Int)) = false := by simp; omega
            have dd2 : decide ((1 : Int) < (s : Int)) = false := by simp; omega
            clear hs
            have hm5' : wrap64 ((IntKind.u64.wrap (op k)).tmod 5) = (2 : Int) := hm5
            clear hm5 hm5l
            have hci : (c : Int) ≤ 61 := by have := HTr.out.c; omega
            go_wp2_with (first
              | (refine wpList_load_mid rfl 40 _ rfl b (o + k * 26) rfl _ d HRg.out hd1 hd2 (by rw [sizeDo, HC26.out]) ?_)
              | (refine wpList_store_all rfl 40 _ _ rfl 26 wr.heap.size zeroDo (.int .i64 (op k) :: .int .i64 (ii k) :: cs) rfl rfl (by exact Lv.new wr _ _) sizeDo rfl HC26.out HO26.out ?_; intro u2 hl2 k2; have c0 : u2.cell? ⟨wr.heap.size, 0, none⟩ = some (.int .i64 (op k)) := hl2.cell (j := 0) rfl; have c1 : u2.cell? ⟨wr.heap.size, 1, none⟩ = some (.int .i64 (ii k)) := hl2.cell (j := 1) rfl; have ku2 : Kp (fun _ => False) wr u2 := ((Kp.refl (fun _ => False) wr).alloc _).trans k2 (fun b hb e => by omega); have HT2 : Hid (Tk u2 p m q n c k T op) := HTr.out.keep ku2; clear hl2 k2)
              | (go_at_call 12; rw [HJ.out]; refine (take_some HT2.out.ps (by have := HT2.out.n; omega) j _ HTj.out (sh_nil _)).mono ?_; rintro e w3 ⟨rfl, k3, hP3⟩)
              | (refine wpList_store_all rfl 38 _ _ rfl 24 w3.heap.size (nilArr 0).toList (nilArr (i : Int)).toList rfl rfl (by exact Lv.new w3 _ _) sizeMsg rfl rfl (nil_one (i : Int)) ?_; intro u4 hl4 k4; have ku4 : Kp (fun _ => False) w3 u4 := ((Kp.refl (fun _ => False) w3).alloc _).trans k4 (fun b hb e => by omega); have c8 : u4.cell? ⟨w3.heap.size, 8, none⟩ = some (.int .i64 (i : Int)) := hl4.cell (j := 8) rfl; have k04 : Kp (fun _ => False) w u4 := ((kr.trans ku2 (fun _ _ e => e)).trans k3 (fun b hb e => by have := HPM.out; omega)).trans ku4 (fun _ _ e => e); obtain ⟨b', o', cs', ebo, hrg', _, _, _⟩ := (HD.out.keep k04) i (by have := HI.out; omega); obtain ⟨rfl, rfl⟩ : b' = b ∧ o' = o := (by simp at ebo; exact ⟨ebo.1.symm, ebo.2.symm⟩); have cop : u4.cell? ⟨b', o' + i * 26, none⟩ = some (.int .i64 (op i)) := hrg' 0 _ rfl; clear hl4 k4 hrg' ebo))
            have hc1 : 1 ≤ c := Ps.pos HT2.out.ps HTj.out
            have HT3 : Hid (Tk w3 p m q n (c - 1) (k + 1) (fun x => if x = j then none else T x) op) := by
              have h2 := HT2.out
              refine ⟨hP3, by have := h2.q; omega, by have := h2.n; omega, by have := h2.c; omega, fun x v hv => ?_⟩
              by_cases e : x = j
              · rw [if_pos e] at hv; cases hv
              · rw [if_neg e] at hv
                obtain ⟨i, h1, h3, h4⟩ := h2.t x v hv
                exact ⟨i, h1, by omega, h4⟩
            have ecc : (c : Int) - 1 = ((c - 1 : Nat) : Int) := by omega
            have HT4 := HT3.out.keep ku4
            clear hP3 k3 HT3
            go_roundg (L - (k + 1))
            case rel => exact ⟨k + 1, q, n, c - 1, _, by omega, by omega, rfl, by go_num, by rw [← ecc], k04, HT4⟩
            case measure => omega
        · cases hz : Tz T (ii k) with
          | none =>
            have HZ : Hid (Tz T (ii k) = none) := hz
            clear hz
            have hm5' : wrap64 ((IntKind.u64.wrap (op k)).tmod 5) = (3 : Int) := hm5
            clear hm5 hm5l
            have hci : (c : Int) ≤ 61 := by have := HTr.out.c; omega
            go_wp2_with (first
              | (refine wpList_load_mid rfl 40 _ rfl b (o + k * 26) rfl _ d HRg.out hd1 hd2 (by rw [sizeDo, HC26.out]) ?_)
              | (refine wpList_store_all rfl 40 _ _ rfl 26 wr.heap.size zeroDo (.int .i64 (op k) :: .int .i64 (ii k) :: cs) rfl rfl (by exact Lv.new wr _ _) sizeDo rfl HC26.out HO26.out ?_; intro u2 hl2 k2; have c0 : u2.cell? ⟨wr.heap.size, 0, none⟩ = some (.int .i64 (op k)) := hl2.cell (j := 0) rfl; have c1 : u2.cell? ⟨wr.heap.size, 1, none⟩ = some (.int .i64 (ii k)) := hl2.cell (j := 1) rfl; have ku2 : Kp (fun _ => False) wr u2 := ((Kp.refl (fun _ => False) wr).alloc _).trans k2 (fun b hb e => by omega); have HT2 : Hid (Tk u2 p m q n c k T op) := HTr.out.keep ku2; clear hl2 k2)
              | (go_at_call 15; refine (lose_none HT2.out.ps (ii k) HW.out HZ.out).mono ?_; rintro e w3 ⟨rfl, k3⟩))
            have HT3 : Hid (Tk w3 p m q n c (k + 1) T op) := by
              have h2 := HT2.out.keep k3
              refine ⟨h2.ps, by have := h2.q; omega, by have := h2.n; omega, by have := h2.c; omega, fun x v hv => ?_⟩
              obtain ⟨i, h1, h3, h4⟩ := h2.t x v hv
              exact ⟨i, h1, by omega, h4⟩
            have k03 : Kp (fun _ => False) w w3 := (kr.trans ku2 (fun _ _ e => e)).trans k3 (fun _ _ e => e)
            go_roundg (L - (k + 1))
            case rel => exact ⟨k + 1, q, n, c, T, by omega, by omega, rfl, by go_num, rfl, k03, HT3⟩
            case measure => omega
          | some vv =>
            obtain ⟨j, hjk, hTj⟩ := Tz_some hz
            obtain ⟨i, rfl, hik, hi1⟩ := HTr.out.t j vv hTj
            have HJ : Hid (ii k = (j : Int)) := hjk
            have HTj : Hid (T j = some (nilMsg (i : Int))) := hTj
            have HI : Hid (i < k ∧ m5 (op i) ≤ 1) := ⟨hik, hi1⟩
            clear hz hjk hTj hik hi1
            have hm5' : wrap64 ((IntKind.u64.wrap (op k)).tmod 5) = (3 : Int) := hm5
            clear hm5 hm5l
            have hci : (c : Int) ≤ 61 := by have := HTr.out.c; omega
            go_wp2_with (first
              | (refine wpList_load_mid rfl 40 _ rfl b (o + k * 26) rfl _ d HRg.out hd1 hd2 (by rw [sizeDo, HC26.out]) ?_)
              | (refine wpList_store_all rfl 40 _ _ rfl 26 wr.heap.size zeroDo (.int .i64 (op k) :: .int .i64 (ii k) :: cs) rfl rfl (by exact Lv.new wr _ _) sizeDo rfl HC26.out HO26.out ?_; intro u2 hl2 k2; have c0 : u2.cell? ⟨wr.heap.size, 0, none⟩ = some (.int .i64 (op k)) := hl2.cell (j := 0) rfl; have c1 : u2.cell? ⟨wr.heap.size, 1, none⟩ = some (.int .i64 (ii k)) := hl2.cell (j := 1) rfl; have ku2 : Kp (fun _ => False) wr u2 := ((Kp.refl (fun _ => False) wr).alloc _).trans k2 (fun b hb e => by omega); have HT2 : Hid (Tk u2 p m q n c k T op) := HTr.out.keep ku2; clear hl2 k2)
              | (go_at_call 15; rw [HJ.out]; refine (lose_some HT2.out.ps (by have := HT2.out.n; omega) j _ HTj.out (sh_nil _)).mono ?_; rintro e w3 ⟨rfl, k3, hP3⟩))
            have hc1 : 1 ≤ c := Ps.pos HT2.out.ps HTj.out
            have HT3 : Hid (Tk w3 p m q n (c - 1) (k + 1) (fun x => if x = j then none else T x) op) := by
              have h2 := HT2.out
              refine ⟨hP3, by have := h2.q; omega, by have := h2.n; omega, by have := h2.c; omega, fun x v hv => ?_⟩
              by_cases e : x = j
              · rw [if_pos e] at hv; cases hv
              · rw [if_neg e] at hv
                obtain ⟨i, h1, h3, h4⟩ := h2.t x v hv
                exact ⟨i, h1, by omega, h4⟩
            have k03 : Kp (fun _ => False) w w3 := (kr.trans ku2 (fun _ _ e => e)).trans k3 (fun b hb e => by have := HPM.out; omega)
            have ecc : (c : Int) - 1 = ((c - 1 : Nat) : Int) := by omega
            clear hP3 k3
            go_roundg (L - (k + 1))
            case rel => exact ⟨k + 1, q, n, c - 1, _, by omega, by omega, rfl, by go_num, by rw [← ecc], k03, HT3⟩
            case measure => omega
        · cases hz : Tz T (ii k) with
          | none =>
            have HZ : Hid (Tz T (ii k) = none) := hz
            clear hz
            have hm5' : wrap64 ((IntKind.u64.wrap (op k)).tmod 5) = (4 : Int) := hm5
            clear hm5 hm5l
            have hci : (c : Int) ≤ 61 := by have := HTr.out.c; omega
            go_wp2_with (first
              | (refine wpList_load_mid rfl 40 _ rfl b (o + k * 26) rfl _ d HRg.out hd1 hd2 (by rw [sizeDo, HC26.out]) ?_)
              | (refine wpList_store_all rfl 40 _ _ rfl 26 wr.heap.size zeroDo (.int .i64 (op k) :: .int .i64 (ii k) :: cs) rfl rfl (by exact Lv.new wr _ _) sizeDo rfl HC26.out HO26.out ?_; intro u2 hl2 k2; have c0 : u2.cell? ⟨wr.heap.size, 0, none⟩ = some (.int .i64 (op k)) := hl2.cell (j := 0) rfl; have c1 : u2.cell? ⟨wr.heap.size, 1, none⟩ = some (.int .i64 (ii k)) := hl2.cell (j := 1) rfl; have ku2 : Kp (fun _ => False) wr u2 := ((Kp.refl (fun _ => False) wr).alloc _).trans k2 (fun b hb e => by omega); have HT2 : Hid (Tk u2 p m q n c k T op) := HTr.out.keep ku2; clear hl2 k2)
              | (go_at_call 17; refine (twice_none HT2.out.ps (ii k) HW.out HZ.out).mono ?_; rintro e w3 ⟨rfl, k3⟩))
            have HT3 : Hid (Tk w3 p m q n c (k + 1) T op) := by
              have h2 := HT2.out.keep k3
              refine ⟨h2.ps, by have := h2.q; omega, by have := h2.n; omega, by have := h2.c; omega, fun x v hv => ?_⟩
              obtain ⟨i, h1, h3, h4⟩ := h2.t x v hv
              exact ⟨i, h1, by omega, h4⟩
            have k03 : Kp (fun _ => False) w w3 := (kr.trans ku2 (fun _ _ e => e)).trans k3 (fun _ _ e => e)
            go_roundg (L - (k + 1))
            case rel => exact ⟨k + 1, q, n, c, T, by omega, by omega, rfl, by go_num, rfl, k03, HT3⟩
            case measure => omega
          | some vv =>
            obtain ⟨j, hjk, hTj⟩ := Tz_some hz
            obtain ⟨i, rfl, hik, hi1⟩ := HTr.out.t j vv hTj
            have HJ : Hid (ii k = (j : Int)) := hjk
            have HTj : Hid (T j = some (nilMsg (i : Int))) := hTj
            have HI : Hid (i < k ∧ m5 (op i) ≤ 1) := ⟨hik, hi1⟩
            clear hz hjk hTj hik hi1
            have hm5' : wrap64 ((IntKind.u64.wrap (op k)).tmod 5) = (4 : Int) := hm5
            clear hm5 hm5l
            have hci : (c : Int) ≤ 61 := by have := HTr.out.c; omega
            go_wp2_with (first
              | (refine wpList_load_mid rfl 40 _ rfl b (o + k * 26) rfl _ d HRg.out hd1 hd2 (by rw [sizeDo, HC26.out]) ?_)
              | (refine wpList_store_all rfl 40 _ _ rfl 26 wr.heap.size zeroDo (.int .i64 (op k) :: .int .i64 (ii k) :: cs) rfl rfl (by exact Lv.new wr _ _) sizeDo rfl HC26.out HO26.out ?_; intro u2 hl2 k2; have c0 : u2.cell? ⟨wr.heap.size, 0, none⟩ = some (.int .i64 (op k)) := hl2.cell (j := 0) rfl; have c1 : u2.cell? ⟨wr.heap.size, 1, none⟩ = some (.int .i64 (ii k)) := hl2.cell (j := 1) rfl; have ku2 : Kp (fun _ => False) wr u2 := ((Kp.refl (fun _ => False) wr).alloc _).trans k2 (fun b hb e => by omega); have HT2 : Hid (Tk u2 p m q n c k T op) := HTr.out.keep ku2; clear hl2 k2)
              | (go_at_call 17; rw [HJ.out]; refine (twice_some HT2.out.ps (by have := HT2.out.n; omega) (by have := HT2.out.q; omega) (by have := HT2.out.c; omega) j _ HTj.out (sh_nil _) (fun v _ => v = nilMsg (i : Int)) (cl_nil (i : Int) u2 _) (fun v' x y h _ _ => h)).mono ?_; rintro e w3 ⟨rfl, k3, v3, hs3, hv3, hP3⟩))
            have HT3 : Hid (Tk w3 p m (q + 1) (n + 1) (c + 1) (k + 1) (fun x => if x = n + 1 then some v3 else T x) op) := by
              have h2 := HT2.out
              refine ⟨hP3, by have := h2.q; omega, by have := h2.n; omega, by have := h2.c; omega, fun x v hv => ?_⟩
              by_cases e : x = n + 1
              · rw [if_pos e] at hv
                injection hv with hv
                subst hv
                exact ⟨i, hv3, by have := HI.out; omega, HI.out.2⟩
              · rw [if_neg e] at hv
                obtain ⟨i, h1, h3, h4⟩ := h2.t x v hv
                exact ⟨i, h1, by omega, h4⟩
            have k03 : Kp (fun _ => False) w w3 := (kr.trans ku2 (fun _ _ e => e)).trans k3 (fun b hb e => by have := HPM.out; omega)
            clear hP3 hv3 hs3 k3
            go_roundg (L - (k + 1))
            case rel => exact ⟨k + 1, q + 1, n + 1, c + 1, _, by omega, by omega, rfl, by go_num, by go_num, k03, HT3⟩
            case measure => omega
      · have d60 : decide ((60 : Int) < (k : Int)) = true := by simp; omega
        have HPk : Hid (∀ u, Kp (fun _ => False) wr u → Calls _ _ _ u _) := fun u ku => packets_len (HTr.out.keep ku).ps (by have := HTr.out.n; omega) (by have := HTr.out.c; omega) (fun j v h => by obtain ⟨i, e, _⟩ := HTr.out.t j v h; exact ⟨_, e⟩)
        go_wp2_with (first
            | (refine wpList_load_mid rfl 40 _ rfl b (o + k * 26) rfl _ d HRg.out hd1 hd2 (by rw [sizeDo, HC26.out]) ?_)
            | (refine wpList_store_all rfl 40 _ _ rfl 26 wr.heap.size zeroDo (.int .i64 (op k) :: .int .i64 (ii k) :: cs) rfl rfl (by exact Lv.new wr _ _) sizeDo rfl HC26.out HO26.out ?_; intro u2 hl2 k2; have ku2 : Kp (fun _ => False) wr u2 := ((Kp.refl (fun _ => False) wr).alloc _).trans k2 (fun b hb e => by omega); clear hl2 k2)
            | (go_at_call 20; refine (HPk.out _ ku2).mono ?_; rintro e w3 ⟨pv, capl, rfl, k3⟩))
        go_ret
        exact ⟨rfl, (kr.trans ku2 (fun _ _ e => e)).trans k3 (fun _ _ e => e)⟩
    · have HPk : Hid (Calls _ _ _ wr _) := packets_len HTr.out.ps (by have := HTr.out.n; omega) (by have := HTr.out.c; omega) (fun j v h => by obtain ⟨i, e, _⟩ := HTr.out.t j v h; exact ⟨_, e⟩)
      go_wp2_with (go_at_call 20; refine HPk.out.mono ?_; rintro e w3 ⟨pv, capl, rfl, k3⟩)
      go_ret
      exact ⟨rfl, kr.trans k3 (fun _ _ e => e)⟩
end Go.Proofs.Ytiplhbpjppkniaa
