/- The walk of the law PostNumbers: packets stand by their numbers. -/
import Derived.Test.YtiplhbpjppkniaaQq
import Derived.Test.YtiplhbpjppkniaaQi
namespace Go.Proofs.Ytiplhbpjppkniaa
set_option linter.unusedVariables false
open Go.RowKit Go.Deep Go.Maps

def m50 (n : Int) : Nat := ((n % 18446744073709551616) % 50).toNat
theorem m50_lt (n : Int) : m50 n < 50 := by unfold m50; omega
theorem m50_eq (n : Int) : wrap64 ((IntKind.u64.wrap n).tmod 50) = (m50 n : Int) := by
  have h : IntKind.u64.wrap n = n % 18446744073709551616 := by simp [IntKind.wrap, IntKind.bits, IntKind.signed]
  rw [h]
  have h0 : 0 ≤ n % 18446744073709551616 := Int.emod_nonneg _ (by omega)
  rw [Int.tmod_eq_emod_of_nonneg h0]
  unfold m50 wrap64
  omega
theorem sh_mr {w : World} {Z : Nat → Prop} {μ : Ms} {v : Value} (h : Mr w Z μ v) : Sh v := by
  obtain ⟨p, cp, pv, cv, l, pb, cb, rfl, _⟩ := h
  exact ⟨(msgA μ.s (.slice p μ.nodes.length cp) (.slice pv l.length cv) (.slice pb μ.bytes.length cb)).toList, rfl, rfl, fun u hu => sentM_one 0 μ.s rfl rfl rfl u (List.mem_cons_of_mem _ hu)⟩
theorem szSent : (Try.prog.info? 55).map (·.size) = some 25 := by kernel_rfl
theorem dsSent : ∃ d, Try.prog.underlying 55 = some d ∧ d.isRow = true := ⟨_, Try.underlying55, rfl⟩
abbrev zeroSent : List Value := .int .i64 0 :: (nilArr 0).toList
/-- a load whose guard is met -/
theorem wpList_load_want {ops : Array Oper} {rest : List Oper} {op : Oper} {a : Act} {w : World} {Q : Exit → Act → World → Prop} (hw : Region.wanted op (yielded ops a.tmps) = true) (ty : TypeId) (x : Operand) (ho : op.op = .load ty x)
    (b o : Nat) (hx : a.eval x = .pointer (some ⟨b, o, none⟩)) (cs : List Value) (d : TypeDesc) (hc : w.rangeAt b o cs)
    (hu : Try.prog.underlying ty = some d) (hd : d.isRow = true) (hi : (Try.prog.info? ty).map (·.size) = some cs.length)
    (h : wpList Try.prog ops Q rest (a.put op.dst (.agg cs.toArray)) w) : wpList Try.prog ops Q (op :: rest) a w :=
  wpList_step fun K hK => by simp only [hw, if_true]; exact wp_load_mid ty x ho b o hx cs d hc hu hd hi (hK _ _ h)
/-- n packets of one message, with the numbers 1 to n -/
structure Nk (w : World) (p m n : Nat) (T : Nat → Option Value) (μ : Ms) : Prop where
  ps : Ps w p m n n n T
  t : ∀ j, (T j).isSome = true ↔ 1 ≤ j ∧ j ≤ n
  g : ∀ j v, T j = some v → Mr w (fun b => b ≠ p ∧ b ≠ m) μ v
theorem Nk.keep {w w' : World} {p m n : Nat} {T : Nat → Option Value} {μ : Ms} (h : Nk w p m n T μ) (k : Kp (fun _ => False) w w') : Nk w' p m n T μ := ⟨h.ps.keep k id id, h.t, fun j v hv => (h.g j v hv).keep k (fun _ _ => id)⟩
theorem nk_nks {T : Nat → Option Value} {n : Nat} (h : ∀ j, (T j).isSome = true ↔ 1 ≤ j ∧ j ≤ n) : nks T (n + 1) = (List.range n).map (fun i : Nat => ((i + 1 : Nat) : Int)) := by
  unfold nks
  rw [List.range_succ_eq_map, List.filter_cons, if_neg (by rw [h]; omega), List.filter_eq_self.2 (fun x hx => by obtain ⟨a, ha, rfl⟩ := List.mem_map.1 hx; rw [List.mem_range] at ha; rw [h]; omega), List.map_map]
  rfl
theorem nk_send {w u : World} {p m n : Nat} {T : Nat → Option Value} {μ : Ms} {v : Value} (hw : Mr w (· < w.heap.size) μ v) (hp : w.heap.size ≤ p ∧ w.heap.size ≤ m) (k : Kp (fun _ => False) w u) (h : Nk u p m n T μ) (hn : n ≤ 50) :
    Calls Try.prog 9 #[.pointer (some ⟨p, 0, none⟩), v] u fun e w' => e = .returned (.tuple #[.int .i64 ((n + 1 : Nat) : Int), .int .i64 0]) ∧ Kp (fun b => b = p ∨ b = m) u w' ∧ ∃ T', Nk w' p m (n + 1) T' μ := by
  have hmu := h.ps.mp.lt
  have hpu := h.ps.lt
  refine (send_ok h.ps (by omega) (by omega) (by omega) v (sh_mr hw) (fun v' z => Mr z (fun b => b ≠ p ∧ b ≠ m) μ v') (fun z kz => ?_) (fun v' x y hx kk _ => hx.keep kk (fun b hb e => by omega))).mono ?_
  · refine (clone_msg (· < w.heap.size) μ v z ((hw.keep k (fun _ _ => id)).keep kz (fun b hb e => by omega))).mono fun e w' ⟨v', he, k', hm'⟩ => ⟨v', he, sh_mr hm', k', hm'.mono (fun b hb => ?_)⟩
    have := kz.size
    omega
  · rintro e w' ⟨he, k', v', hs, hg, hP⟩
    refine ⟨he, k', _, hP, fun j => ?_, fun j x hx => ?_⟩
    · by_cases e : j = n + 1
      · simp [e]
      · simp only [if_neg e]; rw [h.t]; omega
    · by_cases e : j = n + 1
      · simp only [if_pos e] at hx; cases hx; exact hg
      · simp only [if_neg e] at hx; exact (h.g j x hx).keep k' (fun b hb e => by omega)

set_option maxRecDepth 100000 in
set_option maxHeartbeats 8000000 in
theorem postNumbers_walk (a : Int) (v : Value) (w : World) (hv : ∃ μ, Mr w (· < w.heap.size) μ v) :
    Calls Try.prog 5 #[.int .i64 a, v] w fun e w' => e = .returned (.bool true) ∧ Kp (fun _ => False) w w' := by
  obtain ⟨μ, hm⟩ := hv
  have HM : Hid (Mr w (· < w.heap.size) μ v) := hm
  have HNw : Hid (∀ u, Calls _ _ _ u _) := pnew_ok
  have h50 := m50_eq a
  have hl50 := m50_lt a
  obtain ⟨L, hL⟩ : ∃ L, L = m50 a := ⟨_, rfl⟩
  rw [← hL] at h50 hl50
  obtain ⟨cs, rfl, hc24, hc1⟩ := sh_mr hm
  have HL24 : Hid (cs.length = 24) := hc24
  clear hm hL hc24 hc1
  go_enter Try.func5, Try.ntmps5
  go_wp2_with (go_at_call 7; refine (HNw.out _).mono ?_; rintro e w1 ⟨p, m, rfl, k1, hp, hm, hP⟩)
  have HLb : Hid (Lv w1 w.heap.size cs) := (Lv.new w cs.toArray 38).keep k1 id
  have k01 : Kp (fun _ => False) w w1 := ((Kp.refl _ _).alloc _).trans k1 (fun _ _ e => e)
  have HPM : Hid (w.heap.size < p ∧ w.heap.size < m) := by show _ ∧ _; simp at hp hm; omega
  have HN0 : Hid (Nk w1 p m 0 (fun _ => none) μ) := ⟨hP, fun j => by simp; omega, fun j v h => by cases h⟩
  obtain ⟨g, hg⟩ : ∃ g, g = w.heap.size := ⟨_, rfl⟩
  rw [← hg] at HLb ⊢
  have HG : Hid (w.heap.size = g) := hg.symm
  rw [h50]
  clear hg h50 k1 hp hm hP HNw
  have hLi : (L : Int) < 50 := by omega
  go_loopg [20] L (fun gk i wr => ∃ (k : Nat) (T : Nat → Option Value), k ≤ L ∧ gk = L - k ∧ i = .int .i64 k ∧ Kp (fun _ => False) w wr ∧ Hid (Nk wr p m k T μ) ∧ Hid (Lv wr g cs))
  case atStart => exact ⟨0, _, Nat.zero_le _, rfl, rfl, k01, HN0, HLb⟩
  case round =>
    obtain ⟨k, T, hk, rfl, rfl, kr, HNr, HLr⟩ := hrel
    clear HN0 HLb k01
    by_cases hlt : (k : Int) < (L : Int)
    · go_wp2_with (first
        | (refine wpList_load_all rfl 38 _ rfl 24 g cs rfl HLr.out dsMsg szMsg HL24.out ?_)
        | (go_at_call 9; refine (nk_send HM.out (by have := HPM.out; omega) kr HNr.out (by omega)).mono ?_; rintro e w3 ⟨rfl, k3, T3, hN3⟩))
      have k03 : Kp (fun _ => False) w w3 := kr.trans k3 (fun b hb e => by have := HPM.out; omega)
      have HL3 : Hid (Lv w3 g cs) := HLr.out.keep k3 (by have := HPM.out; have := HG.out; omega)
      have HN3 : Hid (Nk w3 p m (k + 1) T3 μ) := hN3
      clear k3 hN3
      go_roundg (L - (k + 1))
      case rel => exact ⟨k + 1, T3, by omega, rfl, by go_num, k03, HN3, HL3⟩
      case measure => omega
    · obtain rfl : k = L := by omega
      have HPk : Hid (Calls _ _ _ wr _) := packets_all HNr.out.ps (by omega) (by omega) (fun _ => μ) (fun b => b ≠ p ∧ b ≠ m) (fun j v h => HNr.out.g j v h)
      go_wp2_with (go_at_call 20; refine HPk.out.mono ?_; rintro e w4 ⟨pv, cap, ps, rfl, k4, hrow, hmap, hlen, hpk⟩)
      have k04 : Kp (fun _ => False) w w4 := kr.trans k4 (fun _ _ e => e)
      have HN4 : Hid (Nk w4 p m k T μ) := HNr.out.keep k4
      have HL4 : Hid (Lv w4 g cs) := HLr.out.keep k4 id
      have HRw : Hid (w4.ownsRow wr.heap.size 55 25 (.slice pv k cap) k (sflat ps)) := hrow
      rw [nk_nks HNr.out.t] at hmap
      have HPl : Hid (ps.length = k) := by show _ = _; have := congrArg List.length hmap; simpa using this
      have HId : Hid (∀ i (hi : i < ps.length), ps[i].1 = ((i + 1 : Nat) : Int)) := fun i hi => by
        have e1 : (ps.map (·.1))[i]? = some ps[i].1 := by rw [List.getElem?_map, List.getElem?_eq_getElem hi]; rfl
        rw [hmap, List.getElem?_map, List.getElem?_range (by have := HPl.out; omega)] at e1
        exact (Option.some.inj e1).symm
      have HPd : Hid (∀ i (hi : i < ps.length), ∀ u, Kp (fun _ => False) w4 u → ps[i].2.length = 24 ∧ (∀ x ∈ ps[i].2, x.oneCell' = true) ∧ ∃ Z, Mr u Z μ (.agg ps[i].2.toArray)) := fun i hi u ku => by
        obtain ⟨h1, h2, j, _, h4⟩ := hpk ps[i] (List.getElem_mem hi)
        exact ⟨h1, h2, _, h4.keep ku (fun _ _ => id)⟩
      clear hrow hmap hlen hpk HPk kr HNr HLr k4
      have HSa : Hid (∀ i (hi : i < ps.length), ∀ u, Kp (fun _ => False) w4 u → Calls Try.prog 14 #[.agg ps[i].2.toArray, .agg cs.toArray] u fun e w' => e = .returned (.bool true) ∧ Kp (fun _ => False) u w') := fun i hi u ku => by
        obtain ⟨_, _, Z, hz⟩ := HPd.out i hi u ku
        exact same_msg Z (· < w.heap.size) μ _ _ u hz (HM.out.keep (k04.trans ku (fun _ _ e => e)) (fun _ _ => id))
      go_loopg [42] k (fun gk i wr => ∃ (j : Nat), j ≤ k ∧ gk = k - j ∧ i = .int .i64 j ∧ Kp (fun _ => False) w4 wr)
      case atStart => exact ⟨0, Nat.zero_le _, rfl, rfl, Kp.refl _ _⟩
      case round =>
        obtain ⟨j, hj, rfl, rfl, kr⟩ := hrel
        by_cases hlt2 : (j : Int) < (k : Int)
        · have hjl : j < ps.length := by have := HPl.out; omega
          obtain ⟨b, cap', eqv⟩ := Joins.ownsRow_form HRw.out (by omega)
          simp only [Value.slice.injEq, true_and] at eqv
          obtain ⟨rfl, rfl⟩ := eqv
          obtain ⟨hm24, hm1, hrest⟩ := HPd.out j hjl wr kr
          clear hrest
          have hrg : wr.rangeAt b (j * 25) (.int .i64 ps[j].1 :: ps[j].2) := fun x y hxy => kr.cellv (row_range HRw.out (fun x hx => by obtain ⟨i, hi, e⟩ := List.getElem_of_mem hx; rw [← e]; exact (HPd.out i hi w4 (Kp.refl _ _)).1) hjl x y hxy) id
          rw [HId.out j hjl] at hrg
          have HSj : Hid (∀ u, Kp (fun _ => False) w4 u → Calls _ _ _ u _) := fun u ku => HSa.out j hjl u ku
          obtain ⟨ms, hms⟩ : ∃ ms, ms = ps[j].2 := ⟨_, rfl⟩
          rw [← hms] at hrg hm24 hm1 HSj
          have HRg : Hid (wr.rangeAt b (j * 25) (.int .i64 ((j + 1 : Nat) : Int) :: ms)) := hrg
          have HM24 : Hid (ms.length = 24) := hm24
          have HC25 : Hid ((.int .i64 ((j + 1 : Nat) : Int) :: ms : List Value).length = 25) := by show _ = _; rw [List.length_cons, hm24]
          have HO25 : Hid ((.int .i64 ((j + 1 : Nat) : Int) :: ms : List Value).toArray.all (·.oneCell') = true) := all_oneCell_toArray (fun x hx => by
            rcases List.mem_cons.1 hx with rfl | hx
            · rfl
            · exact hm1 x hx)
          have HLr : Hid (∀ u, Kp (fun _ => False) wr u → Lv u g cs) := fun u ku => (HL4.out.keep kr id).keep ku id
          obtain ⟨d, hd1, hd2⟩ := dsSent
          obtain ⟨dm, hdm1, hdm2⟩ := dsMsg
          clear hrg hm24 hm1 hms hjl
          go_wp2_with (first
            | (refine wpList_load_mid rfl 55 _ rfl b (j * 25) rfl _ d HRg.out hd1 hd2 (by rw [szSent, HC25.out]) ?_)
            | (refine wpList_store_all rfl 55 _ _ rfl 25 wr.heap.size zeroSent (.int .i64 ((j + 1 : Nat) : Int) :: ms) rfl rfl (by exact Lv.new wr _ _) szSent rfl HC25.out HO25.out ?_; intro u2 hl2 k2; have c0 : u2.cell? ⟨wr.heap.size, 0, none⟩ = some (.int .i64 ((j + 1 : Nat) : Int)) := hl2.cell (j := 0) rfl; have ku2 : Kp (fun _ => False) wr u2 := ((Kp.refl (fun _ => False) wr).alloc _).trans k2 (fun b hb e => by omega); have HR2 : Hid (u2.rangeAt wr.heap.size 1 ms) := (fun x y hxy => by rw [Nat.add_comm 1 x]; exact hl2.cell (j := x + 1) hxy); have HRb : Hid (u2.rangeAt g 0 cs) := (fun x y hxy => by rw [Nat.zero_add]; exact (HLr.out u2 ku2).cell hxy); clear hl2 k2)
            | (refine wpList_load_want (by first | rfl | go_simp) 38 _ rfl wr.heap.size 1 rfl _ dm HR2.out hdm1 hdm2 (by rw [szMsg, HM24.out]) ?_)
            | (refine wpList_load_want (by first | rfl | go_simp) 38 _ rfl g 0 rfl cs dm HRb.out hdm1 hdm2 (by rw [szMsg, HL24.out]) ?_)
            | (go_at_call 14; refine (HSj.out _ (kr.trans ku2 (fun _ _ e => e))).mono ?_; rintro e u3 ⟨rfl, k3⟩))
          go_roundg (k - (j + 1))
          case rel => exact ⟨j + 1, by omega, rfl, by go_num, (kr.trans ku2 (fun _ _ e => e)).trans k3 (fun _ _ e => e)⟩
          case measure => omega
        · obtain rfl : j = k := by omega
          have HN5 : Hid (Nk wr p m j T μ) := HN4.out.keep kr
          have k05 : Kp (fun _ => False) w wr := k04.trans kr (fun _ _ e => e)
          clear HSa HPd HId HRw HPl HL4 HN4 k04 kr
          by_cases h0 : j = 0
          · subst h0
            have hT0 : Tz T 0 = none := by
              rw [show (0 : Int) = ((0 : Nat) : Int) from rfl, Tz_nat]
              cases hT : T 0 with
              | none => rfl
              | some x => have := (HN5.out.t 0).1 (by rw [hT]; rfl); omega
            have HTw : Hid (Calls _ _ _ wr _) := twice_none HN5.out.ps 0 (WalkArith.wf_i64 (by omega)) hT0
            have HLo : Hid (∀ u, Kp (fun _ => False) wr u → Calls _ _ _ u _) := fun u ku => lose_none (HN5.out.keep ku).ps 0 (WalkArith.wf_i64 (by omega)) hT0
            clear hT0
            go_wp2_with (first
              | (go_at_call 17; refine HTw.out.mono ?_; rintro e w6 ⟨rfl, k6⟩)
              | (go_at_call 15; refine (HLo.out _ k6).mono ?_; rintro e w7 ⟨rfl, k7⟩))
            go_ret
            exact ⟨rfl, (k05.trans k6 (fun _ _ e => e)).trans k7 (fun _ _ e => e)⟩
          · obtain ⟨x, hx⟩ := Option.isSome_iff_exists.1 ((HN5.out.t j).2 ⟨by omega, Nat.le_refl _⟩)
            have hmx := HN5.out.g j x hx
            have HTw : Hid (Calls _ _ _ wr _) := twice_some HN5.out.ps (by omega) (by omega) (by omega) j x hx (sh_mr hmx) (fun _ _ => True) (fun z kz => (clone_msg _ μ x z (hmx.keep kz (fun b hb e => by omega))).mono fun e w' ⟨v', he, k', hm'⟩ => ⟨v', he, sh_mr hm', k', trivial⟩) (fun _ _ _ _ _ _ => trivial)
            clear hmx hx
            have hj0 : ¬ (j : Int) = 0 := by omega
            go_wp2_with (go_at_call 17; refine HTw.out.mono ?_; rintro e w6 ⟨rfl, k6, _⟩)
            go_ret
            exact ⟨rfl, k05.trans k6 (fun b hb e => by have := HPM.out; omega)⟩
end Go.Proofs.Ytiplhbpjppkniaa
