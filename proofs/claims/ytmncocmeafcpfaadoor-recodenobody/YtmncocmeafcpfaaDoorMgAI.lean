/- Texts of this proof, joined: MfKz, MfGr, MfM14, MfM13. -/
import Derived.Test.YtmncocmeafcpfaaDoorMgAH
import Derived.Test.YtmncocmeafcpfaaDoorMgAC
import Derived.Test.YtmncocmeafcpfaaDoorMgAG
import Derived.Test.YtmncocmeafcpfaaDoorMgAF
/- append of noughts: 'append(x, make([]byte, n)...)'. -/
namespace Go.Proofs.YtmncocmeafcpfaaDoor.Mf
namespace Bl
open Go.RowKit Go.Deep

theorem zeros_vl (m : Nat) : Builtin.zeroCells (Value.int .u8 0).cells m = (vl (List.replicate m 0)).toArray := by
  apply Array.ext'
  apply List.ext_getElem?
  intro j
  unfold Builtin.zeroCells vl
  by_cases h : j < m
  · simp [h, Value.cells, Nat.mod_one]
  · simp [h, Value.cells]
theorem vl_rep_length (m : Nat) : (vl (List.replicate m 0)).length = m := by rw [vl_length, List.length_replicate]

theorem run_append_zeros (w : World) (base : Nat) (ty : TypeId) (v : Value) (xs : List Nat) (hown : Ow w base v xs) (m : Nat) (hm : xs.length + m ≤ 1000000) (hbase : base ≤ w.heap.size) :
    ∃ v' w', (Builtin.append_ #[22, 3] ty #[v, .int .i64 (m : Int)]).run Tryd.prog w = .ok v' w' ∧ Ow w' base v' (xs ++ List.replicate m 0) ∧ w.grownBy w' v.ownBlock ∧ (v'.ownBlock = v.ownBlock ∨ v'.ownBlock = some w.heap.size) := by
  obtain ⟨i, hi, hz, hsz, hby⟩ := info_parts info5
  have ht : Tryd.prog.underlying 22 = some (.slice 5) := Tryd.underlying22
  have hk : Tryd.prog.underlying 3 = some (.int .i64) := Tryd.underlying3
  have hlen : (vl (xs ++ List.replicate m 0)).length = xs.length + m := by rw [vl_length, List.length_append, List.length_replicate]
  have hap : vl (xs ++ List.replicate m 0) = vl xs ++ vl (List.replicate m 0) := vl_append _ _
  have hL : (xs ++ List.replicate m 0).length = xs.length + m := by rw [List.length_append, List.length_replicate]
  have hw : IntKind.i64.wrap (m : Int) = (m : Int) := by rw [IntKind.wrap_i64]; omega
  have h0 : ¬ ((m : Int) < 0) := by omega
  have h1 : ¬ (281474976710656 < (m : Int)) := by omega
  have grown : ∀ (old : Nat), old < xs.length + m → ∀ (row : Option Nat),
      Ow (w.drew.alloc (.cells ((vl xs ++ vl (List.replicate m 0)).toArray ++ Builtin.zeroCells (Value.int .u8 0).cells (grownCap w (xs.length + m) old 5 - (xs.length + m))) 5)) base
        (.slice (some ⟨w.heap.size, 0, none⟩) (xs.length + m) (grownCap w (xs.length + m) old 5)) (xs ++ List.replicate m 0) ∧
      w.grownBy (w.drew.alloc (.cells ((vl xs ++ vl (List.replicate m 0)).toArray ++ Builtin.zeroCells (Value.int .u8 0).cells (grownCap w (xs.length + m) old 5 - (xs.length + m))) 5)) row := by
    intro old ho row
    have hge := grownCap_ge w (xs.length + m) old 5
    have hcm : grownCap w (xs.length + m) old 5 ≤ maxLen := grownCap_le_maxLen w (xs.length + m) old 5 (by unfold maxLen; omega)
    refine ⟨⟨by rw [hlen, hL]; omega, .inr ⟨w.heap.size, _, _, by rw [hL], hbase, heap_alloc_new w.drew _, by rw [hL]; exact hge, hcm, ?_, ?_⟩⟩, ⟨rfl, rfl, rfl, by simp, fun k hk _ => heap_alloc_old w.drew _ hk⟩⟩
    · rw [zeros_vl]
      simp only [Array.size_append, List.size_toArray, List.length_append, vl_length, List.length_replicate]
      omega
    · simp only [Array.toList_append, hap, hL]
      rw [show (xs.length + m) * 1 = (vl xs ++ vl (List.replicate m 0)).length from by rw [List.length_append, vl_length, vl_rep_length]; omega]
      exact List.take_left
  rcases hown.2 with ⟨rfl, h00⟩ | ⟨g, cap, cur, rfl, hbg, hg, hnc, hcm, hcs, htake⟩
  · have hx : xs = [] := List.eq_nil_of_length_eq_zero h00
    subst hx
    by_cases hm0 : m = 0
    · subst hm0
      refine ⟨.slice none 0 0, w, ?_, World.ownsRow_nil w base _ _, ⟨rfl, rfl, rfl, Nat.le_refl _, fun _ _ _ => rfl⟩, Or.inl rfl⟩
      have hw0 : IntKind.i64.wrap 0 = 0 := by decide
      simp [Builtin.append_, run_underlying ht, run_underlying hk, sizeOf, typeInfo, hi, asInt, asIntOf, hw0]
    · have hm1 : ¬ ((m : Int) ≤ 0) := by omega
      have hgr := grown 0 (by simp; omega) (Value.ownBlock (.slice none 0 0))
      have hfit := growslice_fits (old := 0) (need := m) (bytes := i.bytes) (by omega) (by rw [hby]; simp at hm; omega)
      rw [hby, Nat.mul_one] at hfit
      have hf' : ¬ (281474976710656 < Builtin.nextslicecap m 0) := by omega
      have hmx : ¬ (9223372036854775807 < (m : Int)) := by simp at hm; omega
      simp only [List.length_nil, Nat.zero_add] at hgr
      refine ⟨_, _, ?_, hgr.1, hgr.2, Or.inr rfl⟩
      rw [zeros_vl]
      simp [Builtin.append_, run_underlying ht, run_underlying hk, sizeOf, typeInfo, zeroValue, hi, hz, asInt, asIntOf, hw, h0, h1, hsz, hby, hm0, hmx, hf', Question.forced, newRow, grownCap, Builtin.firstCells, zeros_vl]
      rfl
  · by_cases hroom : xs.length + m ≤ cap
    · have hfit : xs.length + m ≤ cur.size := by omega
      have hst := run_storeCells_at Tryd.prog g (xs.length * 1) 5 (vl (List.replicate m 0)) 0 cur w hg (by rw [vl_rep_length]; omega) (vl_one _)
      simp only [Nat.add_zero, Nat.mul_one] at hst
      have hr : (Builtin.append_ #[22, 3] ty #[.slice (some ⟨g, 0, none⟩) xs.length cap, .int .i64 (m : Int)]).run Tryd.prog w =
          .ok (.slice (some ⟨g, 0, none⟩) (xs.length + m) cap) (w.setRow g (cur.toList.take xs.length ++ vl (List.replicate m 0) ++ cur.toList.drop (xs.length + (vl (List.replicate m 0)).length)).toArray) := by
        by_cases hm0 : m = 0
        · subst hm0
          have hw0 : IntKind.i64.wrap 0 = 0 := by decide
          simp only [List.replicate_zero] at hst ⊢
          have e1 : vl [] = [] := rfl
          rw [e1] at hst ⊢
          simp [Builtin.append_, run_underlying ht, run_underlying hk, sizeOf, typeInfo, hi, asInt, asIntOf, hw0, hsz, Nat.le_of_lt_succ (Nat.lt_succ_of_le hnc), Addr.add_lit] at hst ⊢
          rw [hst]; rfl
        · simp [Builtin.append_, run_underlying ht, run_underlying hk, sizeOf, typeInfo, zeroValue, hi, hz, asInt, asIntOf, hw, h0, h1, hsz, hby, hm0, hroom, Addr.add_lit, zeros_vl, hst]
      refine ⟨_, _, hr, ⟨by rw [hlen, hL]; omega, .inr ⟨g, cap, _, by rw [hL], hbg, setRow_heap w g cur _ 5 _ hg, by rw [hL]; exact hroom, hcm, ?_, ?_⟩⟩, ⟨rfl, rfl, rfl, by simp, fun k _ hk => setRow_other w g k _ (fun e => hk (by simp [Value.ownBlock, e]))⟩, Or.inl rfl⟩
      · simp only [List.size_toArray, List.length_append, List.length_take, List.length_drop, Array.length_toList, vl_rep_length]
        omega
      · have ht1 : cur.toList.take xs.length = vl xs := by rw [Nat.mul_one] at htake; exact htake
        rw [ht1, hap, hL, show (xs.length + m) * 1 = (vl xs ++ vl (List.replicate m 0)).length from by rw [List.length_append, vl_length, vl_rep_length]; omega]
        exact List.take_left
    · have hm0 : m ≠ 0 := by omega
      have holds : ∀ j u, (vl xs)[j]? = some u → w.drew.cell? ((⟨g, 0, none⟩ : Addr).add j) = some u := by simpa using hown.cells (g := g) rfl
      have hold := run_firstCells_some (P := Tryd.prog) w.drew i.size xs.length ⟨g, 0, none⟩ xs.length cap (vl xs) (by rw [hsz, vl_length]; omega) holds
      rw [hsz] at hold
      have hgr := grown cap (by omega) (Value.ownBlock (.slice (some ⟨g, 0, none⟩) xs.length cap))
      have hfit := growslice_fits (old := cap) (need := xs.length + m) (bytes := i.bytes) (by omega) (by rw [hby]; omega)
      rw [hby, Nat.mul_one] at hfit
      have hf' : ¬ (281474976710656 < Builtin.nextslicecap (xs.length + m) cap) := by omega
      have hmx : ¬ (9223372036854775807 < ((xs.length : Int) + (m : Int))) := by omega
      refine ⟨_, _, ?_, hgr.1, hgr.2, Or.inr rfl⟩
      rw [zeros_vl]
      simp [Builtin.append_, run_underlying ht, run_underlying hk, sizeOf, typeInfo, zeroValue, hi, hz, asInt, asIntOf, hw, h0, h1, hsz, hby, hm0, hroom, hmx, hf', Question.forced, newRow, grownCap, hold, zeros_vl]

/-- .. at a step of a region that draws its order -/
theorem step_append_zeros {ops : Array Oper} {o : Oper} {a : Act} {K : Act → World → Prop} {Q : Exit → Act → World → Prop} {E : Prop} (w0 w : World) (k0 : Kp (fun _ => False) w0 w) (hgd : o.guard = none) (s y : Operand)
    (ho : o.op = .call { callee := .builtin .append, args := #[s, y], argTypes := #[22, 3] })
    (v : Value) (xs : List Nat) (hs : a.eval s = v) (hown : Ow w w0.heap.size v xs) (m : Nat) (hx : a.eval y = .int .i64 (m : Int)) (hlen : xs.length + m ≤ 1000000)
    (h : ∀ v' w', Ow w' w0.heap.size v' (xs ++ List.replicate m 0) → Kp (fun _ => False) w0 w' → K (a.put o.dst v') w') :
    if Region.wanted o (yielded ops a.tmps) = true then Oper.wp Tryd.prog o a w K Q else E := by
  have hw : Region.wanted o (yielded ops a.tmps) = true := by simp [Region.wanted, hgd]
  rw [if_pos hw]
  obtain ⟨v', w', hrun, h2, h3, h4⟩ := run_append_zeros w w0.heap.size o.type v xs hown m hlen k0.size
  unfold Oper.wp execOp
  simp only [ho, resolve, invoke, builtin, Sem.run_bind, Sem.run_pure, Result.andThen_ok, List.map_toArray, List.map_cons, List.map_nil, hs, hx, hrun]
  exact h v' w' h2 (Kp.app k0 hown (grownBy_kp h3))
end Bl
end Go.Proofs.YtmncocmeafcpfaaDoor.Mf

/- The walks of the reference's Mul, Div and Inv: each returns what the field of Gf has. -/
namespace Go.Proofs.YtmncocmeafcpfaaDoor.Mf
open Go.RowKit

set_option maxRecDepth 100000 in
set_option maxHeartbeats 400000 in
theorem rmul_nat (a b : Nat) (w : World) (ha : (a : Int) < 256) (hb : (b : Int) < 256) :
    Calls Tryd.prog 111 #[.int .u8 a, .int .u8 b] w fun e w' => e = .returned (.int .u8 (Gf.mul a b)) ∧ w' = w := by
  go_enter Tryd.func111, Tryd.ntmps111
  go_wp2
  go_loop [5, 8] (fun s i => ∃ k : Nat, k ≤ 8 ∧ i = .int .i64 k ∧ s = .int .i64 (Gf.cl a b k)) (fun _ i => 8 - (intOf i).toNat)
  case atStart => exact ⟨0, Nat.zero_le _, rfl, rfl⟩
  case round =>
    obtain ⟨k, hk, rfl, rfl⟩ := hrel
    by_cases hlt : (k : Int) < 8
    · go_wp2
      · exact ⟨⟨k + 1, by omega, by go_num, by rw [rmul_yes a b k (by omega) (by omega) (by omega) ‹_›]⟩, by simp [intOf]; omega⟩
      · exact ⟨⟨k + 1, by omega, by go_num, by rw [rmul_no a b k (by omega) ‹_›]⟩, by simp [intOf]; omega⟩
    · have e : k = 8 := by omega
      subst e
      have hcl := cl_lt8 a b (by omega) 8 (by omega)
      have hred := Gf.red_rm (Gf.cl a b 8) hcl
      go_wp2
      go_loop [5, 7] (fun s i => ∃ k : Nat, k ≤ 7 ∧ i = .int .i64 (7 + k) ∧ ∃ p : Nat, p < 32768 ∧ s = .int .i64 p ∧ Hid (Gf.red p k % 256 = Gf.mul a b)) (fun _ i => (intOf i).toNat - 7)
      case atStart => exact ⟨7, by omega, by go_num, _, hcl, rfl, hred⟩
      case round =>
        clear hred
        obtain ⟨j, hj, rfl, p, hp, rfl, hr⟩ := hrel
        by_cases hj0 : 1 ≤ (j : Int)
        · go_wp2
          · obtain ⟨e1, e2, e3⟩ := red_yes p j (by omega) hj hp ‹_›
            exact ⟨⟨j - 1, by omega, by go_num, _, e2, by rw [e1], by rw [← e3]; exact hr⟩, by simp [intOf]; omega⟩
          · have e3 := red_no p j (by omega) hp ‹_›
            exact ⟨⟨j - 1, by omega, by go_num, _, hp, rfl, by rw [← e3]; exact hr⟩, by simp [intOf]; omega⟩
        · have e : j = 0 := by omega
          subst e
          have hr' := hr.out
          clear hr
          have e5 : (p : Int) % 256 = (Gf.mul a b : Nat) := by rw [← hr']; simp [Gf.red]
          have H5 : Hid ((p : Int) % 256 = (Gf.mul a b : Nat)) := e5
          clear e5 hr'
          go_wp2
          go_ret
          exact ⟨by rw [H5.out]; rfl, rfl⟩

theorem rmul_any (a b : Int) (w : World) (ha0 : 0 ≤ a) (ha : a < 256) (hb0 : 0 ≤ b) (hb : b < 256) :
    Calls Tryd.prog 111 #[.int .u8 a, .int .u8 b] w fun e w' => e = .returned (.int .u8 (Gf.mul a.toNat b.toNat)) ∧ w' = w := by
  obtain ⟨a, rfl⟩ := Int.eq_ofNat_of_zero_le ha0
  obtain ⟨b, rfl⟩ := Int.eq_ofNat_of_zero_le hb0
  exact rmul_nat a b w ha hb

theorem rdiv_zero (a : Int) (w : World) :
    Calls Tryd.prog 120 #[.int .u8 a, .int .u8 0] w fun e w' => e = .returned (.tuple #[.int .u8 0, .int .i64 1]) ∧ w' = w := by
  go_enter Tryd.func120, Tryd.ntmps120
  go_wp2
  go_ret2
  exact ⟨rfl, rfl⟩

set_option maxRecDepth 100000 in
set_option maxHeartbeats 400000 in
theorem rdiv_any (a b : Int) (w : World) (ha0 : 0 ≤ a) (ha : a < 256) (hb0 : 0 < b) (hb : b < 256) :
    Calls Tryd.prog 120 #[.int .u8 a, .int .u8 b] w fun e w' => e = .returned (.tuple #[.int .u8 (Gf.mul a.toNat (Gf.inv b.toNat)), .int .i64 0]) ∧ w' = w := by
  obtain ⟨a, rfl⟩ := Int.eq_ofNat_of_zero_le ha0
  obtain ⟨b, rfl⟩ := Int.eq_ofNat_of_zero_le (show 0 ≤ b by omega)
  have hn : ((b : Int) == 0) = false := beq_eq_false_iff_ne.2 (by omega)
  have hl := Gf.mul_lt a (Gf.inv b)
  have HB : Hid (_ = _) := Gf.div_back a b (by omega) (by omega) (by omega)
  go_enter Tryd.func120, Tryd.ntmps120
  go_wp2
  go_loopw [9] (fun i w' => ∃ k : Nat, k ≤ 256 ∧ i = .int .i64 k ∧ Hid (∀ j, j < k → Gf.mul j b ≠ a) ∧ w' = w) (fun i _ => 256 - (intOf i).toNat)
  case atStart => exact ⟨0, Nat.zero_le _, rfl, fun j hj => by omega, rfl⟩
  case round =>
    obtain ⟨k, hk, rfl, hr, rfl⟩ := hrel
    by_cases hlt : (k : Int) < 256
    · by_cases he : Gf.mul k b = a
      · have HF : Hid (_ = _) := Gf.div_found a b k (by omega) (by omega) (by omega) (by omega) he
        have hq : ((Gf.mul k b : Nat) : Int) == (a : Int) := by rw [he]; simp
        clear he
        go_wp2_with (go_at_call 111; refine (rmul_nat _ _ _ (by omega) (by omega)).mono ?_; rintro e w' ⟨rfl, rfl⟩)
        go_ret2
        exact ⟨by simp only [Int.toNat_natCast]; rw [HF.out]; rfl, rfl⟩
      · have hq : (((Gf.mul k b : Nat) : Int) == (a : Int)) = false := beq_eq_false_iff_ne.2 (by omega)
        have HN : Hid (Gf.mul k b ≠ a) := he
        clear he
        go_wp2_with (go_at_call 111; refine (rmul_nat _ _ _ (by omega) (by omega)).mono ?_; rintro e w' ⟨rfl, rfl⟩)
        exact ⟨⟨k + 1, by omega, by go_num, fun j hj => by
          by_cases h : j < k
          · exact hr.out j h
          · rw [show j = k from by omega]; exact HN.out, trivial⟩, by simp [intOf]; omega⟩
    · exact absurd HB.out (hr.out _ (by omega))

set_option maxRecDepth 100000 in
set_option maxHeartbeats 400000 in
theorem rinv_zero (w : World) :
    Calls Tryd.prog 109 #[.int .u8 0] w fun e w' => e = .returned (.tuple #[.int .u8 0, .int .i64 1]) ∧ w' = w := by
  go_enter Tryd.func109, Tryd.ntmps109
  go_wp2_with (go_at_call 120; refine (rdiv_zero _ _).mono ?_; rintro e w' ⟨rfl, rfl⟩)
  go_ret2
  exact ⟨rfl, rfl⟩

set_option maxRecDepth 100000 in
set_option maxHeartbeats 400000 in
theorem rinv_nat (b : Nat) (w : World) (hb0 : 0 < (b : Int)) (hb : (b : Int) < 256) :
    Calls Tryd.prog 109 #[.int .u8 b] w fun e w' => e = .returned (.tuple #[.int .u8 (Gf.inv b), .int .i64 0]) ∧ w' = w := by
  have H : Hid (_ = _) := mul_one_inv b (by omega)
  go_enter Tryd.func109, Tryd.ntmps109
  go_wp2_with (go_at_call 120; refine (rdiv_any _ _ _ (by omega) (by omega) (by omega) (by omega)).mono ?_; rw [H.out]; rintro e w' ⟨rfl, rfl⟩)
  go_ret2
  exact ⟨rfl, rfl⟩

theorem rdiv_gen (a b : Nat) (w : World) (ha : (a : Int) < 256) (hb : (b : Int) < 256) :
    Calls Tryd.prog 120 #[.int .u8 a, .int .u8 b] w fun e w' => e = .returned (.tuple #[.int .u8 (dq a b), .int .i64 (de b)]) ∧ w' = w := by
  by_cases h : b = 0
  · subst h; exact rdiv_zero a w
  · have e1 : dq a b = Gf.mul a (Gf.inv b) := if_neg h
    have e2 : de b = 0 := if_neg h
    rw [e1, e2]
    exact rdiv_any a b w (by omega) ha (by omega) hb
theorem rinv_gen (b : Nat) (w : World) (hb : (b : Int) < 256) :
    Calls Tryd.prog 109 #[.int .u8 b] w fun e w' => e = .returned (.tuple #[.int .u8 (iq b), .int .i64 (de b)]) ∧ w' = w := by
  by_cases h : b = 0
  · subst h; exact rinv_zero w
  · have e1 : iq b = Gf.inv b := if_neg h
    have e2 : de b = 0 := if_neg h
    rw [e1, e2]
    exact rinv_nat b w (by omega) hb
end Go.Proofs.YtmncocmeafcpfaaDoor.Mf

/- The walks of the reference's Is and add. -/
namespace Go.Proofs.YtmncocmeafcpfaaDoor.Mf
open Go.RowKit Go.Deep

/-- A row of bytes whose block may be longer: what stands behind the n-th is not said. -/
def RowB (w : World) (b nt n : Nat) (f : Nat → Nat) : Prop := ∃ g, w.rowIs b 5 nt g ∧ n ≤ nt ∧ ∀ j, j < n → g j = .int .u8 ((f j : Nat) : Int)
namespace RowB
variable {w w' : World} {b nt n : Nat} {f f' : Nat → Nat}
theorem cell (h : RowB w b nt n f) {i : Nat} (hi : i < n) : w.cell? ⟨b, i, none⟩ = some (.int .u8 ((f i : Nat) : Int)) := by
  obtain ⟨g, hg, hn, he⟩ := h
  rw [hg.cell (by omega), he i hi]
theorem frozen (h : RowB w b nt n f) (i : Nat) : w.frozen? ⟨b, i, none⟩ = false := h.elim fun _ hg => hg.1.frozen i
theorem lt (h : RowB w b nt n f) : b < w.heap.size := h.elim fun _ hg => hg.1.lt
theorem congr (h : RowB w b nt n f) (e : ∀ j, j < n → f j = f' j) : RowB w b nt n f' := by
  obtain ⟨g, hg, hn, he⟩ := h
  exact ⟨g, hg, hn, fun j hj => by rw [he j hj, e j hj]⟩
theorem keep {S : Nat → Prop} (h : RowB w b nt n f) (k : Kp S w w') (hb : ¬ S b) : RowB w' b nt n f := by
  obtain ⟨g, hg, hn, he⟩ := h
  exact ⟨g, k.row hg hb, hn, he⟩
theorem drew (h : RowB w b nt n f) : RowB w.drew b nt n f := h
theorem drewN (h : RowB w b nt n f) (k : Nat) : RowB (w.drewN k) b nt n f := by
  obtain ⟨g, hg, hn, he⟩ := h
  exact ⟨g, rowIs_drewN hg k, hn, he⟩
theorem alloc (h : RowB w b nt n f) (o : Obj) : RowB (w.alloc o) b nt n f := by
  obtain ⟨g, hg, hn, he⟩ := h
  exact ⟨g, hg.alloc o, hn, he⟩
theorem setOther (h : RowB w b nt n f) {a : Addr} (ha : b ≠ a.block) (v : Value) : RowB (w.setCell a v) b nt n f := by
  obtain ⟨g, hg, hn, he⟩ := h
  exact ⟨g, hg.setOther ha v, hn, he⟩
theorem set (h : RowB w b nt n f) (i x : Nat) : RowB (w.setCell ⟨b, i, none⟩ (.int .u8 ((x : Nat) : Int))) b nt n (fun j => if j = i then x else f j) := by
  obtain ⟨g, hg, hn, he⟩ := h
  refine ⟨_, hg.set i _, hn, fun j hj => ?_⟩
  by_cases e : j = i
  · simp [e]
  · simp [e, he j hj]
theorem of_row (h : w.rowIs b 5 nt (By f)) (hn : n ≤ nt) : RowB w b nt n f := ⟨_, h, hn, fun _ _ => rfl⟩
end RowB

set_option maxRecDepth 100000 in
set_option maxHeartbeats 800000 in
theorem refIs_loop (s : Sh) (w : World) (h : Rd w s) (hG : (s.G : Int) ≤ 255) (h0 : 1 ≤ (s.G : Int)) :
    Calls Tryd.prog 110 #[.slice s.g s.G s.cap] w fun e w' => e = .returned (.bool (isM s)) ∧ w' = w := by
  have hg := h.at0 (by omega)
  rw [hg]
  have c0 := h.hd 0 (by omega)
  have d1 : decide ((s.G : Int) < 1) = false := by simp; omega
  have d2 : decide (255 < (s.G : Int)) = false := by simp; omega
  simp only [Nat.add_zero] at c0
  go_enter Tryd.func110, Tryd.ntmps110
  go_wp2
  go_loopg [15] s.G (fun gk i wr => ∃ k : Nat, k ≤ s.G ∧ gk = s.G - k ∧ i = .int .i64 k ∧ (Hid (∀ r, r < k → s.L r = s.L 0 ∧ 1 ≤ s.L r ∧ s.L r ≤ 255)) ∧ wr = w)
  case atStart => exact ⟨0, Nat.zero_le _, rfl, rfl, fun r hr => absurd hr (Nat.not_lt_zero _), rfl⟩
  case round =>
    obtain ⟨k, hk, rfl, rfl, hr, rfl⟩ := hrel
    by_cases hlt : (k : Int) < (s.G : Int)
    · have ck := h.hd k (by omega)
      by_cases ha : (s.L k : Int) < 1
      · have d3 : decide ((s.L k : Int) < 1) = true := by simp; omega
        have HF : Hid (isM s = false) := decide_eq_false (fun hx => by have := hx.2.2.2.2 k (by omega); omega)
        go_wp2
        go_ret
        exact ⟨by rw [HF.out]; rfl, rfl⟩
      · have d3 : decide ((s.L k : Int) < 1) = false := by simp; omega
        by_cases hb : 255 < (s.L k : Int)
        · have d4 : decide (255 < (s.L k : Int)) = true := by simp; omega
          have HF : Hid (isM s = false) := decide_eq_false (fun hx => by have := hx.2.2.2.2 k (by omega); omega)
          go_wp2
          go_ret
          exact ⟨by rw [HF.out]; rfl, rfl⟩
        · have d4 : decide (255 < (s.L k : Int)) = false := by simp; omega
          by_cases he : s.L k = s.L 0
          · have hq : ((s.L k : Int) != (s.L 0 : Int)) = false := by rw [he]; exact bne_self_eq_false _
            have HE : Hid (s.L k = s.L 0) := he
            clear he
            go_wp2
            go_roundg (s.G - (k + 1))
            case rel => exact ⟨k + 1, by omega, rfl, by go_num, fun r hr' => by
              by_cases e : r = k
              · rw [e]; exact ⟨HE.out, by omega, by omega⟩
              · exact hr.out r (by omega), rfl⟩
            case measure => omega
          · have hq : ((s.L k : Int) != (s.L 0 : Int)) = true := bne_iff_ne.2 (by omega)
            have HF : Hid (isM s = false) := decide_eq_false (fun hx => he (hx.2.2.2.2 k (by omega)))
            clear he
            go_wp2
            go_ret
            exact ⟨by rw [HF.out]; rfl, rfl⟩
    · have HT : Hid (isM s = true) := decide_eq_true ⟨by omega, by omega, by have := hr.out 0 (by omega); omega, by have := hr.out 0 (by omega); omega, fun r hr' => (hr.out r (by omega)).1⟩
      go_wp2
      go_ret
      exact ⟨by rw [HT.out]; rfl, rfl⟩

set_option maxRecDepth 100000 in
set_option maxHeartbeats 800000 in
theorem refIs_few (s : Sh) (w : World) (hG : (s.G : Int) < 1) :
    Calls Tryd.prog 110 #[.slice s.g s.G s.cap] w fun e w' => e = .returned (.bool (isM s)) ∧ w' = w := by
  have HF : Hid (isM s = false) := decide_eq_false (by omega)
  have d1 : decide ((s.G : Int) < 1) = true := by simp; omega
  go_enter Tryd.func110, Tryd.ntmps110
  go_wp2
  go_ret
  exact ⟨by rw [HF.out]; rfl, rfl⟩

set_option maxRecDepth 100000 in
set_option maxHeartbeats 800000 in
theorem refIs_many (s : Sh) (w : World) (hG : 255 < (s.G : Int)) :
    Calls Tryd.prog 110 #[.slice s.g s.G s.cap] w fun e w' => e = .returned (.bool (isM s)) ∧ w' = w := by
  have HF : Hid (isM s = false) := decide_eq_false (by omega)
  have d1 : decide ((s.G : Int) < 1) = false := by simp; omega
  have d2 : decide (255 < (s.G : Int)) = true := by simp; omega
  go_enter Tryd.func110, Tryd.ntmps110
  go_wp2
  go_ret
  exact ⟨by rw [HF.out]; rfl, rfl⟩

theorem refIs_any (s : Sh) (w : World) (h : Rd w s) :
    Calls Tryd.prog 110 #[.slice s.g s.G s.cap] w fun e w' => e = .returned (.bool (isM s)) ∧ w' = w := by
  by_cases a : (s.G : Int) < 1
  · exact refIs_few s w a
  by_cases b : 255 < (s.G : Int)
  · exact refIs_many s w b
  · exact refIs_loop s w h (by omega) (by omega)
end Go.Proofs.YtmncocmeafcpfaaDoor.Mf

/- The walks of the reference's Identity and Generator, of the errors of both sides, and of the law's awake. -/
namespace Go.Proofs.YtmncocmeafcpfaaDoor.Mf
open Go.RowKit Go.Deep

theorem made_set (w : World) (n r : Nat) (g : Nat → Value) (h : ∀ j, j < n → (if j = r then Value.int .u8 1 else .int .u8 0) = g j) :
    (w.alloc (.cells ((madeCells #[.int .u8 0] n).setIfInBounds r (.int .u8 1)) 5)).rowIs w.heap.size 5 n g := by
  obtain ⟨c, hc, hcs, hcv⟩ := World.rowIs_made w (.int .u8 0) n 5
  have hc' : (w.heap.push (.cells (madeCells #[.int .u8 0] n) 5 (0, 0)))[w.heap.size]? = some (.cells c 5 (0, 0)) := hc
  rw [Array.getElem?_push, if_pos rfl] at hc'
  have e : madeCells #[.int .u8 0] n = c := by simpa using hc'
  rw [e]
  refine ⟨c.setIfInBounds r (.int .u8 1), by show (w.heap.push _)[w.heap.size]? = _; simp, by simpa using hcs, fun i hi => ?_⟩
  rw [Array.getElem?_setIfInBounds, ← h i hi]
  by_cases e1 : i = r
  · subst e1; simp [hcs, hi]
  · rw [if_neg (fun e => e1 e.symm), if_neg e1]
    exact hcv i hi

theorem Gath.congr {w wr : World} {v : Value} {n r : Nat} {B : Nat → Nat} {M M' : Nat → Nat → Nat} (h : Gath w wr v n r B M) (e : ∀ j, j < r → ∀ c, c < n → M j c = M' j c) : Gath w wr v n r B M' :=
  ⟨h.kept, h.own, fun j hj => (h.row j hj).congr (fun c hc => by simp only [By]; rw [e j hj c hc]), h.lo, h.inj, h.ne⟩

set_option maxRecDepth 100000 in
set_option maxHeartbeats 1600000 in
theorem refIdentity_yes (n : Nat) (w : World) (h1 : 1 ≤ (n : Int)) (h2 : (n : Int) ≤ 255) :
    Calls Tryd.prog 108 #[.int .i64 n] w fun e w' => ∃ v B, e = .returned (.tuple #[v, .int .i64 0]) ∧ Gath w w' v n n B (ones n) := by
  have d1 : decide ((n : Int) < 1) = false := by simp; omega
  have d2 : decide (255 < (n : Int)) = false := by simp; omega
  go_enter Tryd.func108, Tryd.ntmps108
  go_wp2
  clear d1 d2
  go_loopg [4, 14] n (fun gk v i wr => ∃ (r : Nat) (B : Nat → Nat), r ≤ n ∧ gk = n - r ∧ i = .int .i64 r ∧ Gath w wr v n r B (ones n))
  case atStart => exact ⟨0, _, Nat.zero_le _, rfl, rfl, Gath.start w n _⟩
  case round =>
    obtain ⟨r, B, hr, rfl, rfl, hGa⟩ := hrel
    by_cases hlt : (r : Int) < (n : Int)
    · have hmk := run_make_row' (P := Tryd.prog) 22 5 (.int .u8 0) 1 Tryd.underlying22 info5 rfl .i64 .i64 n (by omega) (by omega)
      obtain ⟨ti, hi, hz0, hz1, hz2⟩ := info_parts info42
      have hwr := hGa.kept.size
      have hnew := World.rowIs_made wr (.int .u8 0) n 5
      have g1 := hnew.cell (i := r) (by omega)
      have g2 := hnew.frozen r
      clear hnew
      have HR : Hid ((wr.alloc (.cells ((madeCells #[.int .u8 0] n).setIfInBounds r (.int .u8 1)) 5)).rowIs wr.heap.size 5 n (By (ones n r))) := made_set wr n r _ (fun j _ => by
        simp only [By, ones]
        by_cases e : j = r
        · rw [if_pos e, if_pos ⟨by omega, e.symm⟩]; rfl
        · rw [if_neg e, if_neg (by omega)]; rfl)
      have hK : Kp (fun _ => False) wr (wr.alloc (.cells ((madeCells #[.int .u8 0] n).setIfInBounds r (.int .u8 1)) 5)) := (Kp.refl _ _).alloc _
      go_wp2_with (at_builtin; go_must (refine wpList_append_own_at _ rfl _ _ 27 rfl w.heap.size 22 ti (.slice none 0 0) 1 24 Tryd.underlying27 hi hz0 hz1 hz2 rfl (by decide) _ _ _ rfl ((ownsRow_keep hGa.own hK).alloc _) ⟨wr.heap.size + 1, 0, none⟩ 1 1 [.slice (some ⟨wr.heap.size, 0, none⟩) n n] rfl rfl ?c1 (fun x hx => by simp at hx; subst hx; rfl) (by unfold maxLen; omega) (by omega) (by simp; omega) ?_); rotate_right; intro v' w3 hown' hgrow3 hnil3 hblk3)
      case c1 => intro j u hj; simpa using cell_one_new (wr.alloc (.cells ((madeCells #[.int .u8 0] n).setIfInBounds r (.int .u8 1)) 5)) (.slice (some ⟨wr.heap.size, 0, none⟩) n n) 22 j u hj
      go_roundg (n - (r + 1))
      case rel => exact ⟨r + 1, _, by omega, rfl, by go_num, hGa.step hK HR.out hown' hgrow3 hblk3⟩
      case measure => omega
    · have e : r = n := by omega
      subst e
      go_wp2
      go_ret2
      exact ⟨_, rfl, B, hGa⟩

theorem rinv_some (b : Nat) (w : World) (hb : b < 256) (h : b ≠ 0) : Calls Tryd.prog 109 #[.int .u8 ((b : Nat) : Int)] w fun e w' => e = .returned (.tuple #[.int .u8 (Gf.inv b), .int .i64 0]) ∧ w' = w := by
  have := rinv_gen b w (by omega)
  rw [show iq b = Gf.inv b from if_neg h, show de b = 0 from if_neg h] at this
  exact this

set_option maxRecDepth 100000 in
set_option maxHeartbeats 3200000 in
theorem refGenerator_yes (K M : Nat) (w : World) (h1 : 1 ≤ (K : Int)) (h3 : (M : Int) ≤ 255 - (K : Int)) :
    Calls Tryd.prog 87 #[.agg #[.int .i64 K, .int .i64 M]] w fun e w' =>
      ∃ v, e = .returned (.tuple #[v, .int .i64 0]) ∧ Kp (fun _ => False) w w' ∧ Mx w' v (K + M) K (gen K) := by
  have d1 : decide ((K : Int) < 1) = false := by simp; omega
  have d2 : decide ((M : Int) < 0) = false := by simp
  have d3 : decide (255 < (K : Int)) = false := by simp; omega
  have d4 : decide (255 - (K : Int) < (M : Int)) = false := by simp; omega
  go_enter Tryd.func87, Tryd.ntmps87
  go_wp2_with fail
  obtain ⟨wa, hwa⟩ : ∃ x, x = w.alloc (.cells #[.int .i64 (K : Int), .int .i64 (M : Int)] 26) := ⟨_, rfl⟩
  have q1 : wa.cell? ⟨w.heap.size, 0, none⟩ = some (.int .i64 (K : Int)) := by rw [hwa]; go_simp
  have q2 : wa.cell? ⟨w.heap.size, 1, none⟩ = some (.int .i64 (M : Int)) := by rw [hwa]; go_simp
  have k0 : Kp (fun _ => False) w wa := by rw [hwa]; exact (Kp.refl _ _).alloc _
  rw [← hwa]
  refine (refIdentity_yes K wa h1 (by omega)).mono ?_
  rintro e w2 ⟨v0, B0, rfl, hG0⟩
  have s2 := hG0.kept.cellv q2 id
  have hG1 : Gath wa w2 v0 K (K + 0) B0 (gen K) := hG0.congr (fun j hj c _ => by unfold gen; rw [if_pos hj])
  clear hwa d1 d2 d3 d4 hG0
  go_wp2
  clear s2
  go_loopg [4, 38] M (fun gk v x wr => ∃ (i : Nat) (B : Nat → Nat), i ≤ M ∧ gk = M - i ∧ x = .int .i64 i ∧ Gath wa wr v K (K + i) B (gen K))
  case atStart => exact ⟨0, _, Nat.zero_le _, rfl, rfl, hG1⟩
  case round =>
    obtain ⟨i, B, hi, rfl, rfl, hGa⟩ := hrel
    obtain ⟨wr0, rfl⟩ : ∃ x, x = wr := ⟨_, rfl⟩
    clear hG1
    have s1 := hGa.kept.cellv q1 id
    by_cases hlt : (i : Int) < (M : Int)
    · have hmk := run_make_row' (P := Tryd.prog) 22 5 (.int .u8 0) 1 Tryd.underlying22 info5 rfl .i64 .i64 K (by omega) (by omega)
      obtain ⟨ti, hti, hz0, hz1, hz2⟩ := info_parts info42
      have hwr := hGa.kept.size
      have hnew := World.rowIs_made wr0 (.int .u8 0) K 5
      go_wp2
      clear hmk s1
      go_loopg [46] K (fun gk x wq => ∃ k : Nat, k ≤ K ∧ gk = K - k ∧ x = .int .i64 k ∧ Kp (fun _ => False) wr0 wq ∧ wq.heap.size = wr0.heap.size + 1 ∧ wq.rowIs wr0.heap.size 5 K (By (upTo (gen K (K + i)) k)))
      case atStart => exact ⟨0, Nat.zero_le _, rfl, rfl, (Kp.refl _ _).alloc _, by simp, by rw [upTo_zero]; exact hnew⟩
      case round =>
        obtain ⟨k, hk, rfl, rfl, hK, hz, hR⟩ := hrel
        clear hnew
        have s1 := hK.cellv (hGa.kept.cellv q1 id) id
        by_cases hlk : (k : Int) < (K : Int)
        · have e3 := hR.frozen k
          have e2 := hR.cell (i := k) (by omega)
          have hw1 : IntKind.u8.wrap ((K : Int) + (i : Int)) = (K : Int) + (i : Int) := by rw [IntKind.wrap_u8']; omega
          have hw2 : IntKind.u8.wrap (k : Int) = (k : Int) := by rw [IntKind.wrap_u8']; omega
          have hx : bits .xor .u8 ((K : Int) + (i : Int)) (k : Int) = (((K + i) ^^^ k : Nat) : Int) := by
            rw [show (K : Int) + (i : Int) = ((K + i : Nat) : Int) from by simp]
            exact u8_xor_nat _ _ (by omega) (by omega)
          have hb := xor8 (show K + i < 256 by omega) (show k < 256 by omega)
          have hx0 : (K + i) ^^^ k ≠ 0 := xor_ne (by omega)
          have HX : Hid ((K + i) ^^^ k ≠ 0) := hx0
          have HG : Hid (Gf.inv ((K + i) ^^^ k) = gen K (K + i) k) := by
            show _ = _
            unfold gen; rw [if_neg (by omega)]
          clear hx0
          simp only [By] at e2
          go_wp2_with (go_at_call 109; refine (rinv_some ((K + i) ^^^ k) _ hb HX.out).mono ?_; rintro e w' ⟨rfl, rfl⟩)
          go_roundg (K - (k + 1))
          case rel => exact ⟨k + 1, by omega, rfl, by go_num, hK.setCell (fun h => absurd h (Nat.lt_irrefl _)) _, by simpa using hz, (hR.set k _).congr (fun j _ => by
            simp only [By]
            rw [upTo_succ]
            split
            · rw [HG.out]
            · rfl)⟩
          case measure => omega
        · have e : K = k := by omega
          subst e
          have hrowk : wr.rowIs wr0.heap.size 5 K (By (gen K (K + i))) := hR.congr (fun j hj => by simp only [By, upTo]; rw [if_pos hj])
          have HZ : Hid (wr.heap.size = wr0.heap.size + 1) := hz
          clear hz
          go_wp2_with (at_builtin; go_must (refine wpList_append_own_at _ rfl _ _ 27 rfl wa.heap.size 22 ti (.slice none 0 0) 1 24 Tryd.underlying27 hti hz0 hz1 hz2 rfl (by decide) _ _ _ rfl ((ownsRow_keep hGa.own hK).alloc _) ⟨wr.heap.size, 0, none⟩ 1 1 [.slice (some ⟨wr0.heap.size, 0, none⟩) K K] rfl rfl (cell_one_new _ _ _) (fun x hx => by simp at hx; subst hx; rfl) (by unfold maxLen; omega) (by omega) (by simp; have := HZ.out; omega) ?_); intro v' w3 hown' hgrow3 hnil3 hblk3)
          go_roundg (M - (i + 1))
          case rel => exact ⟨i + 1, _, by omega, rfl, by go_num, hGa.step hK hrowk hown' hgrow3 hblk3⟩
          case measure => omega
    · have e : M = i := by omega
      subst e
      obtain ⟨t, cap, rfl, _, hMt⟩ := hGa.mt (by omega) (gen_lt K)
      go_wp2
      go_ret2
      exact ⟨_, rfl, k0.trans hGa.kept (fun _ _ e => e), hMt.mx cap⟩

set_option maxRecDepth 100000 in
set_option maxHeartbeats 800000 in
theorem refIdentity_no (n : Int) (w : World) (h : n < 1 ∨ 255 < n) :
    Calls Tryd.prog 108 #[.int .i64 n] w fun e w' => e = .returned (.tuple #[.slice none 0 0, .int .i64 1]) ∧ w' = w := by
  by_cases h1 : n < 1
  · have d1 : decide (n < 1) = true := by simp; omega
    clear h
    go_enter Tryd.func108, Tryd.ntmps108
    go_wp2
    go_ret2
    exact ⟨rfl, rfl⟩
  · have d1 : decide (n < 1) = false := by simp; omega
    have h2 : 255 < n := by omega
    have d2 : decide (255 < n) = true := by simp; omega
    clear h
    go_enter Tryd.func108, Tryd.ntmps108
    go_wp2
    go_ret2
    exact ⟨rfl, rfl⟩

set_option maxRecDepth 100000 in
set_option maxHeartbeats 800000 in
theorem isCode_no (K M : Int) (w : World) (hw : 1 ≤ K → wrap64 (255 - K) = 255 - K) (h : ¬ (1 ≤ K ∧ 0 ≤ M ∧ M ≤ 255 - K)) :
    Calls Tryd.prog 134 #[.agg #[.int .i64 K, .int .i64 M]] w fun e w' => e = .returned (.bool false) ∧ Kp (fun _ => False) w w' := by
  by_cases h1 : 1 ≤ K
  · have hw' := hw h1
    clear hw
    have d1 : decide (1 ≤ K) = true := by simp; omega
    by_cases h2 : 0 ≤ M
    · have d2 : decide (0 ≤ M) = true := by simp; omega
      have h3 : ¬ M ≤ 255 - K := by omega
      have d3 : decide (M ≤ 255 - K) = false := by simp; omega
      clear h
      go_enter Tryd.func134, Tryd.ntmps134
      go_wp2
      go_ret
      exact ⟨rfl, (Kp.refl _ _).alloc _⟩
    · have d2 : decide (0 ≤ M) = false := by simp; omega
      clear h
      go_enter Tryd.func134, Tryd.ntmps134
      go_wp2
      go_ret
      exact ⟨rfl, (Kp.refl _ _).alloc _⟩
  · have d1 : decide (1 ≤ K) = false := by simp; omega
    clear h hw
    go_enter Tryd.func134, Tryd.ntmps134
    go_wp2
    go_ret
    exact ⟨rfl, (Kp.refl _ _).alloc _⟩

set_option maxRecDepth 100000 in
set_option maxHeartbeats 800000 in
theorem generator_no (K M : Int) (w : World) (hw : 1 ≤ K → wrap64 (255 - K) = 255 - K) (h : ¬ (1 ≤ K ∧ 0 ≤ M ∧ M ≤ 255 - K)) :
    Calls Tryd.prog 122 #[.agg #[.int .i64 K, .int .i64 M]] w fun e w' => e = .returned (.tuple #[.slice none 0 0, .int .i64 1]) ∧ Kp (fun _ => False) w w' := by
  have HC : Hid (∀ w, Calls _ _ _ w _) := fun w => isCode_no K M w hw h
  clear hw h
  go_enter Tryd.func122, Tryd.ntmps122
  go_wp2_with fail
  refine (HC.out _).mono ?_
  rintro e w1 ⟨rfl, k1⟩
  have kk : Kp (fun _ => False) w w1 := ((Kp.refl _ w).alloc _).trans k1 (fun _ _ e => e)
  go_wp2
  go_ret2
  exact ⟨rfl, kk⟩

set_option maxRecDepth 100000 in
set_option maxHeartbeats 800000 in
theorem refGenerator_no (K M : Int) (w : World) (h : ¬ (1 ≤ K ∧ 0 ≤ M ∧ M ≤ 255 - K)) :
    Calls Tryd.prog 87 #[.agg #[.int .i64 K, .int .i64 M]] w fun e w' => e = .returned (.tuple #[.slice none 0 0, .int .i64 1]) ∧ Kp (fun _ => False) w w' := by
  by_cases h1 : K < 1
  · have d1 : decide (K < 1) = true := by simp; omega
    clear h
    go_enter Tryd.func87, Tryd.ntmps87
    go_wp2
    go_ret2
    exact ⟨rfl, (Kp.refl _ _).alloc _⟩
  · have d1 : decide (K < 1) = false := by simp; omega
    by_cases h2 : M < 0
    · have d2 : decide (M < 0) = true := by simp; omega
      clear h
      go_enter Tryd.func87, Tryd.ntmps87
      go_wp2
      go_ret2
      exact ⟨rfl, (Kp.refl _ _).alloc _⟩
    · have d2 : decide (M < 0) = false := by simp; omega
      by_cases h3 : 255 < K
      · have d3 : decide (255 < K) = true := by simp; omega
        clear h
        go_enter Tryd.func87, Tryd.ntmps87
        go_wp2
        go_ret2
        exact ⟨rfl, (Kp.refl _ _).alloc _⟩
      · have d3 : decide (255 < K) = false := by simp; omega
        have h4 : 255 - K < M := by omega
        have d4 : decide (255 - K < M) = true := by simp; omega
        clear h
        go_enter Tryd.func87, Tryd.ntmps87
        go_wp2
        go_ret2
        exact ⟨rfl, (Kp.refl _ _).alloc _⟩

end Go.Proofs.YtmncocmeafcpfaaDoor.Mf
