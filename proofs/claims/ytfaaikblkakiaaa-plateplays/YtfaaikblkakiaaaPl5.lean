/- The verifier's written: a plate of six sectors, of which some were written. -/
import Derived.Test.YtfaaikblkakiaaaPl4
namespace Go.Proofs.Ytfaaikblkakiaaa
open Go.RowKit Go.Deep Go.Maps

/-- the calls of a list, as they lie -/
structure Dos (w : World) (v : Value) (L : Nat) : Prop where
  form : ∃ (g : Option Addr) (gb go cap : Nat), v = .slice g L cap ∧ (0 < L → g = some ⟨gb, go, none⟩) ∧ ∀ r, r < L → ∃ (op i tn nn : Int) (p : Option Addr) (nb cb : Nat) (xs : List Nat) (pk : Option Addr) (nk ck : Nat),
    w.cell? ⟨gb, go + r * 6, none⟩ = some (.int .i64 op) ∧ w.cell? ⟨gb, go + r * 6 + 1, none⟩ = some (.int .i64 i) ∧ w.cell? ⟨gb, go + r * 6 + 2, none⟩ = some (.int .i64 tn) ∧ w.cell? ⟨gb, go + r * 6 + 3, none⟩ = some (.int .i64 nn) ∧
    w.cell? ⟨gb, go + r * 6 + 4, none⟩ = some (.slice p nb cb) ∧ w.cell? ⟨gb, go + r * 6 + 5, none⟩ = some (.slice pk nk ck) ∧ Rb w p nb xs
  many : (L : Int) ≤ 9223372036854775807

/-- texts of 64 bytes each, in blocks of their own -/
structure Nows (w : World) (b d m t n : Nat) (V : Nat → Value) (N : Nat → List Nat) : Prop where
  top : w.rowIs t 32 n V
  row : ∀ r, r < n → ∃ bb o c, V r = .slice (some ⟨bb, o, none⟩) 64 c ∧ Rb w (some ⟨bb, o, none⟩) 64 (N r) ∧ bb ≠ t ∧ bb ≠ d ∧ bb ≠ m ∧ bb ≠ b
  tb : t ≠ b ∧ t ≠ d ∧ t ≠ m
theorem Nows.keep {S : Nat → Prop} {w w' : World} {b d m t n : Nat} {V : Nat → Value} {N : Nat → List Nat} (h : Nows w b d m t n V N) (k : Kp S w w') (hS : ∀ x, S x → x = b ∨ x = d ∨ x = m) : Nows w' b d m t n V N := by
  refine ⟨k.row h.top (fun e => by have h1 := hS _ e; obtain ⟨h2, h3, h4⟩ := h.tb; rcases h1 with h1 | h1 | h1 <;> contradiction), fun r hr => ?_, h.tb⟩
  obtain ⟨bb, o, c, h1, h2, h3, h4, h5, h6⟩ := h.row r hr
  exact ⟨bb, o, c, h1, h2.keep k (fun a ha _ e => by cases ha; have h1 := hS _ e; dsimp only at h1; rcases h1 with h1 | h1 | h1 <;> contradiction), h3, h4, h5, h6⟩

theorem info42 : (Try.prog.info? 32).map (fun i => (i.zero, i.size, i.bytes)) = some (some (.slice none 0 0), 1, 24) := by kernel_rfl

set_option maxRecDepth 100000 in
set_option maxHeartbeats 1600000 in
theorem texts64 {w : World} {t n c : Nat} {V : Nat → Value} {N : Nat → List Nat} (hn : (n : Int) ≤ 8192) (ht : w.rowIs t 32 n V) (hr : ∀ r, r < n → ∃ bb o c, V r = .slice (some ⟨bb, o, none⟩) 64 c ∧ Rb w (some ⟨bb, o, none⟩) 64 (N r)) :
    Calls Try.prog 16 #[.slice (some ⟨t, 0, none⟩) n c] w fun e w' => ∃ v, e = .returned v ∧ Kp (fun _ => False) w w' := by
  obtain ⟨ti, hi0, hz0, hz1, hz2⟩ := info_parts info42
  have HR : Hid _ := hr
  clear hr
  go_enter Try.func16, Try.ntmps16
  go_wp2
  go_loopg [3, 8] n (fun gk v i wr => ∃ (k : Nat) (v' : Value) (xs : List Value), k ≤ n ∧ gk = n - k ∧ i = .int .i64 k ∧ v' = v ∧ Kp (fun _ => False) w wr ∧ Hid (wr.ownsRow w.heap.size 32 1 v' k xs))
  case atStart => exact ⟨0, _, [], Nat.zero_le _, rfl, rfl, rfl, Kp.refl _ _, World.ownsRow_nil _ _ _ _⟩
  case round =>
    obtain ⟨k, v, xs, hk, rfl, rfl, rfl, hK, hO⟩ := hrel
    by_cases hlt : (k : Int) < (n : Int)
    · obtain ⟨bb, o, c', hV, hRb⟩ := HR.out k (by omega)
      have c1 := hK.cellv (ht.cell (i := k) (by omega)) id
      rw [hV] at c1
      have HC : Hid (∀ c, Calls _ _ #[.slice _ _ c] wr _) := fun c => clone_any (some ⟨bb, o, none⟩) 64 c (N k) wr (hRb.keep0 hK) (show 64 ≤ 140737488355328 by omega)
      have hwz := hK.size
      have HB : Hid (∀ x ∈ N k, x < 256) := hRb.byte
      have HLn : Hid ((N k).length = 64) := hRb.len
      clear hV hRb
      go_wp2_with fail
      refine (HC.out _).mono ?_
      rintro e wq ⟨vq, rfl, kq, oq⟩
      obtain ⟨pq, cq, ev, _, _, _⟩ := oq.rb HB.out
      rw [HLn.out] at ev
      subst ev
      have hOq := ownsRow_keep hO.out kq (fun _ _ => id)
      have hwq := kq.size
      have hKq := hK.trans kq (fun _ _ e => e)
      clear HC c1 hO oq
      go_wp2_with (at_builtin; go_must (refine wpList_append_own_at _ rfl _ _ 40 rfl w.heap.size 32 ti (.slice none 0 0) 1 24 Try.underlying40 hi0 hz0 hz1 hz2 rfl (by decide) _ _ _ rfl (hOq.alloc _) ⟨wq.heap.size, 0, none⟩ 1 1 [.slice pq 64 cq] rfl rfl (cell_one_new _ _ _) (fun x hx => by simp at hx; subst hx; rfl) (by unfold maxLen; omega) (by omega) (by simp; omega) ?_); intro v' w3 hown' hgrow3 hnil3 hblk3)
      have HK3 : Hid (Kp (fun _ => False) w w3) := Kp.trans (hKq.alloc _) (grownBy_kp hgrow3) (fun b hb e => by have := ownBlock_lt hOq e; omega)
      go_roundg (n - (k + 1))
      case rel => exact ⟨k + 1, v', _, by omega, rfl, by go_num, rfl, HK3.out, hown'⟩
      case measure => omega
    · clear hO HR ht
      go_wp2
      go_ret
      exact ⟨⟨_, rfl⟩, hK⟩

/-- what a copy of bytes leaves in 64 noughts -/
def cp64 (xs : List Nat) : List Nat := (xs ++ List.replicate 64 0).take 64
theorem cp64_sec {xs : List Nat} (h : ∀ x ∈ xs, x < 256) : Sec (cp64 xs) := by
  refine ⟨by simp [cp64], fun x hx => ?_⟩
  rcases List.mem_append.1 (List.mem_of_mem_take hx) with hx | hx
  · exact h x hx
  · rw [List.eq_of_mem_replicate hx]; omega
theorem cp64_get (xs : List Nat) {j : Nat} (hj : j < 64) : (cp64 xs).getD j 0 = if j < xs.length then xs.getD j 0 else 0 := by
  unfold cp64
  rw [List.getD_eq_getElem?_getD, List.getElem?_take_of_lt hj]
  by_cases h : j < xs.length
  · rw [if_pos h, List.getElem?_append_left h, List.getD_eq_getElem?_getD]
  · rw [if_neg h, List.getElem?_append_right (by omega), List.getElem?_replicate]
    split <;> rfl
theorem wpList_copy_64 {w : World} {ops : Array Oper} {rest : List Oper} {o : Oper} {a : Act} {Q : Exit → Act → World → Prop} (hgd : o.guard = none) (dd s : Operand)
    (ho : o.op = .call { callee := .builtin .copy, args := #[dd, s], argTypes := #[32, 32] }) (d : Nat) (p : Option Addr) (nb cb : Nat) (hd : a.eval dd = .slice (some ⟨d, 0, none⟩) 64 64) (hs : a.eval s = .slice p nb cb)
    (hg : w.rowIs d 5 64 (fun _ => .int .u8 0)) (xs : List Nat) (hr : Rb w p nb xs)
    (h : ∀ w', Kp (fun b => b = d) w w' → Rb w' (some ⟨d, 0, none⟩) 64 (cp64 xs) → wpList Try.prog ops Q rest (a.put o.dst (goInt (Nat.min nb 64))) w') : wpList Try.prog ops Q (o :: rest) a w := by
  have hfin : ∀ w', w'.rowIs d 5 64 (fun j => if 0 ≤ j ∧ j < 0 + Nat.min nb 64 then .int .u8 ((xs.getD (j - 0) 0 : Nat) : Int) else .int .u8 0) → Rb w' (some ⟨d, 0, none⟩) 64 (cp64 xs) := fun w' hr' =>
    ⟨(cp64_sec hr.byte).1, (cp64_sec hr.byte).2, fun j hj => ⟨d, 0, rfl, by
      have hmin : Nat.min nb 64 = min nb 64 := rfl
      rw [Nat.zero_add, hr'.cell hj, cp64_get xs hj, hr.len]
      by_cases h1 : j < nb
      · rw [if_pos ⟨Nat.zero_le _, by rw [hmin]; omega⟩, if_pos h1]; rfl
      · rw [if_neg (by rw [hmin]; omega), if_neg h1]; rfl⟩⟩
  by_cases h0 : nb = 0
  · subst h0
    obtain ⟨ii, hi, hz⟩ := Option.map_eq_some_iff.1 info5
    simp only [Prod.mk.injEq] at hz
    have hrun : (Builtin.copy_ #[32, 32] o.type #[.slice (some ⟨d, 0, none⟩) 64 64, .slice p 0 cb]).run Try.prog w = .ok (goInt 0) w := by
      cases p <;> simp [Builtin.copy_, run_underlying Try.underlying32, sizeOf, typeInfo, hi, Builtin.lenOf, Builtin.firstCells, loadCells, loadCellsFrom, storeCells]
    refine wpList_plain hgd fun K hK => ?_
    unfold Oper.wp
    simp [execOp, ho, resolve, invoke, builtin, hd, hs, hrun, Result.andThen]
    exact hK _ _ (h w (Kp.refl _ _) (hfin w (hg.congr (fun j _ => by rw [if_neg (by simp)]))))
  · obtain ⟨bb, oo, rfl, hcell⟩ := hr.pt (by omega)
    have hmin : Nat.min nb 64 = min nb 64 := rfl
    have hr2 : Rb w (some ⟨bb, oo, none⟩) (Nat.min nb 64) (xs.take (Nat.min nb 64)) :=
      ⟨by rw [List.length_take, hr.len, hmin]; omega, fun x hx => hr.byte x (List.mem_of_mem_take hx), fun j hj => ⟨bb, oo, rfl, by
        rw [hcell j (by rw [hmin] at hj; omega), List.getD_eq_getElem?_getD, List.getD_eq_getElem?_getD, List.getElem?_take_of_lt hj]⟩⟩
    refine wpList_copy_sec hgd dd s ho d 0 64 bb oo cb nb (Nat.min nb 64) rfl hd hs 64 _ hg (Nat.le_refl _) _ hr2 ?_
    intro w' k' _ r'
    refine h w' k' (hfin w' (r'.congr (fun j hj => ?_)))
    by_cases h1 : 0 ≤ j ∧ j < 0 + Nat.min nb 64
    · rw [if_pos h1, if_pos h1, List.getD_eq_getElem?_getD, List.getD_eq_getElem?_getD, List.getElem?_take_of_lt (by omega)]
    · rw [if_neg h1, if_neg h1]

theorem nowOf_sync {w : World} {b d m n q : Nat} {dur : List Nat} {T : Nat → Option (List Nat)} (h : Pt w b d m n q dur T) {i : Nat} (hi : i < n) : nowOf (durAll dur T n) (fun _ => none) i = nowOf dur T i := by
  have hl : (durAll dur T n).length = n * 64 := by simp [durAll]
  have hget : ∀ j, j < n * 64 → (durAll dur T n)[j]? = some (Sf dur T (fun _ => false) j) := fun j hj => by unfold durAll; rw [List.getElem?_map, List.getElem?_range hj]; rfl
  obtain ⟨D, _, hDD, _⟩ := h.mp
  have key : ∀ ys : List Nat, ys.length = 64 → (∀ j, j < 64 → ys[j]? = some (Sf dur T (fun _ => false) (i * 64 + j))) → (((durAll dur T n).drop (i * 64)).take 64) = ys := fun ys hy hj => by
    apply List.ext_getElem?
    intro j
    by_cases h64 : j < 64
    · rw [List.getElem?_take_of_lt h64, List.getElem?_drop, hget _ (by omega), hj j h64]
    · rw [List.getElem?_eq_none (by rw [List.length_take]; omega), List.getElem?_eq_none (by omega)]
  unfold nowOf
  show ((durAll dur T n).drop (i * 64)).take 64 = _
  cases hT : T i with
  | none =>
    show _ = (dur.drop (i * 64)).take 64
    refine key _ (h.durSec hi).1 (fun j hj => ?_)
    rw [List.getElem?_take_of_lt hj, List.getElem?_drop]
    unfold Sf
    rw [show (i * 64 + j) / 64 = i from by omega, hT]
    show _ = some (dur.getD (i * 64 + j) 0)
    rw [List.getD_eq_getElem?_getD, List.getElem?_eq_getElem (by rw [h.len]; omega)]; rfl
  | some xs =>
    have hs := ((hDD i hi).2 xs hT).1
    show _ = xs
    refine key _ hs.1 (fun j hj => ?_)
    unfold Sf
    rw [show (i * 64 + j) / 64 = i from by omega, hT, show (i * 64 + j) % 64 = j from by omega]
    simp only [Bool.false_eq_true, if_false]
    rw [List.getD_eq_getElem?_getD, List.getElem?_eq_getElem (by rw [hs.1]; exact hj)]; rfl

/-- what written leaves -/
def Wst (w w' : World) (b d m q t : Nat) : Prop := Kp (fun _ => False) w w' ∧ (q : Int) ≤ 9223372036854775807 ∧ w.heap.size ≤ b ∧ w.heap.size ≤ d ∧ w.heap.size ≤ m ∧ w.heap.size ≤ t ∧
  ∃ (V : Nat → Value) (N : Nat → List Nat) (dur : List Nat) (T : Nat → Option (List Nat)), Pt w' b d m 6 q dur T ∧ Nows w' b d m t 6 V N ∧ ∀ i, i < 6 → N i = nowOf dur T i
def m6 (n : Int) : Nat := ((n % 18446744073709551616) % 6).toNat
theorem m6_lt (n : Int) : (m6 n : Int) < 6 := by unfold m6; omega
theorem m6_eq (n : Int) : wrap64 ((IntKind.u64.wrap n).tmod 6) = (m6 n : Int) := by
  have h : IntKind.u64.wrap n = n % 18446744073709551616 := by simp [IntKind.wrap, IntKind.bits, IntKind.signed]
  rw [h]
  have h0 : 0 ≤ n % 18446744073709551616 := Int.emod_nonneg _ (by omega)
  rw [Int.tmod_eq_emod_of_nonneg h0]
  unfold m6 wrap64
  omega
theorem Nows.put {w w' : World} {b d m t n : Nat} {V : Nat → Value} {N : Nat → List Nat} {i g c : Nat} {xs : List Nat} (h : Nows w b d m t n V N) (_hi : i < n) (hr : Rb w (some ⟨g, 0, none⟩) 64 xs) (hg : g ≠ t ∧ g ≠ d ∧ g ≠ m ∧ g ≠ b) (hw : w' = w.setCell ⟨t, i, none⟩ (.slice (some ⟨g, 0, none⟩) 64 c)) :
    Nows w' b d m t n (fun j => if j = i then .slice (some ⟨g, 0, none⟩) 64 c else V j) (fun j => if j = i then xs else N j) := by
  have ks : Kp (fun x => x = t) w w' := by rw [hw]; exact (Kp.refl (fun x => x = t) w).setCell (a := ⟨t, i, none⟩) (fun _ => rfl) _
  refine ⟨by rw [hw]; exact h.top.set i _, fun r hr' => ?_, h.tb⟩
  by_cases e : r = i
  · simp only [if_pos e]
    exact ⟨g, 0, c, rfl, hr.keep ks (fun a ha _ e => by cases ha; exact hg.1 e), hg⟩
  · simp only [if_neg e]
    obtain ⟨bb, o, c, h1, h2, h3, h4⟩ := h.row r hr'
    exact ⟨bb, o, c, h1, h2.keep ks (fun a ha _ e => by cases ha; exact h3 e), h3, h4⟩

set_option maxRecDepth 100000 in
set_option maxHeartbeats 1600000 in
theorem written_any (v : Value) (L : Nat) (w : World) (h : Dos w v L) :
    Calls Try.prog 21 #[v] w fun e w' => ∃ (b d m q t : Nat) (wv : Value) (c : Nat), e = .returned (.tuple #[.pointer (some ⟨b, 0, none⟩), wv, .slice (some ⟨t, 0, none⟩) 6 c]) ∧ Wst w w' b d m q t := by
  obtain ⟨g, gb, go, cap, rfl, hg, hD⟩ := h.form
  have HD : Hid _ := hD
  have HL := h.many
  clear hD h
  have H1 : Hid (Calls _ _ _ w _) := new_ok 6 w (by omega) (by omega)
  go_enter Try.func21, Try.ntmps21
  go_wp2_with fail
  refine H1.out.mono ?_
  rintro e w1 ⟨b, d, m, rfl, k1, hb, hd, hm, hP⟩
  have HI : Hid (∀ w', Kp (fun _ => False) w1 w' → Calls _ _ _ w' _) := fun w' k' => image_ok (hP.keep k' id id id)
  clear H1
  go_wp2_with fail
  refine (HI.out _ (Kp.refl _ _)).mono ?_
  rintro e w2 ⟨t2, V2, rfl, k2, z2, r2, o2⟩
  go_wp2_with fail
  refine (HI.out _ k2).mono ?_
  rintro e w3 ⟨t, V, rfl, k3, z3, r3, o3⟩
  have hP3 := hP.keep (k2.trans k3 (fun _ _ e => e)) id id id
  have hlt1 := hP.lt
  have hdl : d < w1.heap.size := hP.row.lt
  have hml := hP.mp.lt
  have hsz2 := k2.size
  have hNw : Nows w3 b d m t 6 V (fun i => nowOf (List.replicate (6 * 64) 0) (fun _ => none) i) := by
    refine ⟨r3, fun r hr => ?_, by omega, by omega, by omega⟩
    have ho := o3 r hr
    have hs := hP3.durSec (i := r) hr
    obtain ⟨p, c, ev, _, rb, hbk⟩ := ho.rb hs.2
    rw [hs.1] at ev rb
    obtain ⟨bb, o, rfl, _⟩ := rb.pt (by omega)
    have := (hbk _ rfl).1
    simp only at this
    exact ⟨bb, o, c, ev, rb, by omega, by omega, by omega, by omega⟩
  have kw3 := k1.trans (k2.trans k3 (fun _ _ e => e)) (fun _ _ e => e)
  have HN0 : Hid _ := hNw
  have HP3 : Hid _ := hP3
  have hzt : w.heap.size ≤ t := by have := k1.size; omega
  clear hP hP3 hNw o2 o3 r2 r3 HI
  go_wp2
  go_loopg [7, 28] L (fun gk wv x wr => ∃ (k q : Nat) (wv' : Value) (V : Nat → Value) (N : Nat → List Nat) (dur : List Nat) (T : Nat → Option (List Nat)), k ≤ L ∧ gk = L - k ∧ x = .int .i64 k ∧ wv' = wv ∧ q ≤ k ∧ Kp (fun _ => False) w wr ∧ Hid (Pt wr b d m 6 q dur T) ∧ Hid (Nows wr b d m t 6 V N) ∧ Hid (∀ i, i < 6 → N i = nowOf dur T i))
  case atStart => exact ⟨0, 0, _, _, _, _, _, Nat.zero_le _, rfl, rfl, rfl, Nat.le_refl _, kw3, HP3.out, HN0.out, fun _ _ => rfl⟩
  case round =>
    obtain ⟨k, q, wv, V, N, dur, T, hk, rfl, rfl, rfl, hq, hK, hPt, hNo, hEq⟩ := hrel
    clear HP3 HN0 kw3 k1 k2 k3
    by_cases hlt : (k : Int) < (L : Int)
    · have hg' := hg (by omega)
      subst hg'
      obtain ⟨op, ii, tn, nn, p, nb, cb, xs, pk, nk, ck, e0, e1, e2, e3, e4, e5, hrb⟩ := HD.out k (by omega)
      have f0 := hK.cellv e0 id
      have f1 := hK.cellv e1 id
      have f2 := hK.cellv e2 id
      have f3 := hK.cellv e3 id
      have f4 := hK.cellv e4 id
      have f5 := hK.cellv e5 id
      have HM : Hid (_ = _) := m6_eq ii
      have hm6 := m6_lt ii
      clear e0 e1 e2 e3 e4 e5
      have hmk : ∀ w : World, (Instr.makeSlice 32 (.int .i64 64) (.int .i64 64)).run Try.prog w = .ok (.slice (some ⟨w.heap.size, 0, none⟩) 64 64) (w.alloc (.cells (madeCells #[.int .u8 0] 64) 5)) := fun w => run_make_row' (P := Try.prog) 32 5 (.int .u8 0) 1 Try.underlying32 info5 rfl .i64 .i64 64 (by omega) (by omega) w
      obtain ⟨w4, hw4⟩ : ∃ x, x = wr.alloc (.cells #[.int .i64 op, .int .i64 ii, .int .i64 tn, .int .i64 nn, .slice p nb cb, .slice pk nk ck] 35) := ⟨_, rfl⟩
      obtain ⟨w5, hw5⟩ : ∃ x, x = w4.alloc (.cells (madeCells #[.int .u8 0] 64) 5) := ⟨_, rfl⟩
      have k4 : Kp (fun _ => False) wr w4 := by rw [hw4]; exact (Kp.refl _ _).alloc _
      have k5 : Kp (fun _ => False) w4 w5 := by rw [hw5]; exact (Kp.refl _ _).alloc _
      have z4 : w4.heap.size = wr.heap.size + 1 := by rw [hw4]; simp
      have r5 : w5.rowIs w4.heap.size 5 64 (fun _ => .int .u8 0) := by rw [hw5]; exact World.rowIs_made w4 (.int .u8 0) 64 5
      have k45 := k4.trans k5 (fun _ _ e => e)
      have kw5 := hK.trans k45 (fun _ _ e => e)
      have HRb : Hid (Rb w5 p nb xs) := hrb.keep0 kw5
      have HP5 : Hid (Pt w5 b d m 6 q dur T) := hPt.out.keep k45 id id id
      have HN5 : Hid (Nows w5 b d m t 6 V N) := hNo.out.keep k45 (fun _ e => e.elim)
      have HBy : Hid (∀ x ∈ xs, x < 256) := hrb.byte
      have hk5 : w.heap.size ≤ wr.heap.size := hK.size
      clear hrb
      have g0 : w4.cell? ⟨wr.heap.size, 0, none⟩ = some (.int .i64 op) := by rw [hw4]; go_simp
      have g4 : w5.cell? ⟨wr.heap.size, 4, none⟩ = some (.slice p nb cb) := k5.cellv (by rw [hw4]; go_simp) id
      have g5 := k5.cellv g0 id
      have hbl := hPt.out.lt
      have hdl := hPt.out.row.lt
      have hml := hPt.out.mp.lt
      have htl := hNo.out.top.lt
      rw [z4] at r5
      go_wp2_with (refine wpList_copy_64 rfl _ _ rfl (wr.heap.size + 1) p nb cb rfl rfl (by rw [← hw4, ← hw5]; exact r5) xs (by rw [← hw4, ← hw5]; exact HRb.out) ?_; intro w6 k6 rb6; rw [← hw4, ← hw5] at k6)
      have kk6 : Kp (fun _ => False) wr w6 := k45.trans k6 (fun b hb e => by omega)
      have hP6 := hPt.out.keep kk6 id id id
      have hN6 := hNo.out.keep kk6 (fun _ e => e.elim)
      have q0 := k6.cellv g5 (by show wr.heap.size ≠ wr.heap.size + 1; omega)
      have HPq : Hid (Pt w6 b d m 6 q dur T) := hP6
      rw [HM.out]
      obtain ⟨i, hi⟩ : ∃ i, i = m6 ii := ⟨_, rfl⟩
      rw [← hi] at hm6 ⊢
      have HW : Hid (Calls _ _ _ w6 _) := write_ok hP6 (by omega) i hm6 (wr.heap.size + 1) 0 64 (cp64 xs) rb6
      clear f0 f1 f2 f3 f4 f5 hw4 hw5 hmk r5 g0 g4 g5 k4 k5 hP6 HP5 HN5 HRb HM hi
      refine HW.out.mono ?_
      rintro e w7 ⟨rfl, k7, hP7⟩
      have hN7 := hN6.keep k7 (fun _ e => Or.inr (Or.inr e))
      have rb7 := rb6.keep k7 (fun a ha _ e => by cases ha; simp only at e; omega)
      have q1 := k7.cellv q0 (by show wr.heap.size ≠ m; omega)
      have t1 := hN7.top.cell (i := i) (by omega)
      have t2 := hN7.top.frozen i
      obtain ⟨w8, hw8⟩ : ∃ x, x = w7.setCell ⟨t, i, none⟩ (.slice (some ⟨wr.heap.size + 1, 0, none⟩) 64 64) := ⟨_, rfl⟩
      have k8 : Kp (fun x => x = t) w7 w8 := by rw [hw8]; exact (Kp.refl (fun x => x = t) w7).setCell (a := ⟨t, i, none⟩) (fun _ => rfl) _
      have hN8 := hN7.put (i := i) (g := wr.heap.size + 1) (c := 64) (by omega) rb7 (by omega) hw8
      have htb := hN7.tb
      have hP8 := hP7.keep k8 (fun e => htb.1 e.symm) (fun e => htb.2.1 e.symm) (fun e => htb.2.2 e.symm)
      have q2 := k8.cellv q1 (by show wr.heap.size ≠ t; omega)
      have q2u := q2
      rw [hw8] at q2u
      have kw7 : Kp (fun _ => False) w w7 := (hK.trans kk6 (fun _ _ e => e)).trans k7 (fun x hx e => by omega)
      have kw8 : Kp (fun _ => False) w w8 := kw7.trans k8 (fun x hx e => by omega)
      have HEq8 : Hid (∀ j, j < 6 → (if j = i then cp64 xs else N j) = nowOf dur (fun j => if j = i then some (cp64 xs) else T j) j) := fun j hj => by
        by_cases e : j = i
        · unfold nowOf; simp only [if_pos e, Option.getD_some]
        · rw [if_neg e, hEq.out j hj]; unfold nowOf; simp only [if_neg e]
      have HP8 : Hid _ := hP8
      have HN8 : Hid _ := hN8
      clear HW hP7 hN7 hN6 hN8 hP8 hPt hNo hEq HPq rb6 rb7 q0 q1
      by_cases hop : op.tmod 4 = 0
      · have d1 : (op.tmod 4 == 0) = true := by rw [hop]; rfl
        have HSy : Hid (Calls _ _ _ w8 _) := sync_ok HP8.out
        go_wp2_with fail
        rw [← hw8]
        clear hw8 q2u
        refine HSy.out.mono ?_
        rintro e w9 ⟨rfl, k9, hP9⟩
        have hN9 := HN8.out.keep k9 (fun _ e => Or.inr e)
        have kw9 : Kp (fun _ => False) w w9 := kw8.trans k9 (fun x hx e => by omega)
        have HTx : Hid (∀ c, Calls _ _ #[.slice _ _ c] w9 _) := fun c => texts64 (c := c) (by omega) hN9.top (fun r hr => by obtain ⟨bb, o, c, x1, x2, _⟩ := hN9.row r hr; exact ⟨bb, o, c, x1, x2⟩)
        have HEq9 : Hid (∀ j, j < 6 → (if j = i then cp64 xs else N j) = nowOf (durAll dur (fun j => if j = i then some (cp64 xs) else T j) 6) (fun _ => none) j) := fun j hj => by
          rw [nowOf_sync HP8.out hj]; exact HEq8.out j hj
        have HP9 : Hid _ := hP9
        have HN9 : Hid _ := hN9
        clear HSy hP9 hN9 HP8 HN8
        go_wp2_with fail
        refine (HTx.out _).mono ?_
        rintro e w10 ⟨v10, rfl, k10⟩
        have HP10 : Hid _ := HP9.out.keep k10 id id id
        have HN10 : Hid _ := HN9.out.keep k10 (fun _ e => e.elim)
        have kw10 := kw9.trans k10 (fun _ _ e => e)
        clear HTx HP9 HN9
        go_wp2
        go_roundg (L - (k + 1))
        case rel => exact ⟨k + 1, 0, v10, _, _, _, _, by omega, rfl, by go_num, rfl, by omega, kw10, HP10.out, HN10.out, HEq9.out⟩
        case measure => omega
      · have d1 : (op.tmod 4 == 0) = false := beq_eq_false_iff_ne.2 hop
        go_wp2
        rw [← hw8]
        go_roundg (L - (k + 1))
        case rel => exact ⟨k + 1, q + 1, wv, _, _, _, _, by omega, rfl, by go_num, rfl, by omega, kw8, HP8.out, HN8.out, HEq8.out⟩
        case measure => omega
    · have hst : Wst w wr b d m q t := ⟨hK, by omega, hb, hd, hm, hzt, V, N, dur, T, hPt.out, hNo.out, hEq.out⟩
      clear hPt hNo hEq
      go_wp2
      go_ret3
      exact ⟨b, d, m, q, t, ⟨wv, 6, rfl⟩, hst⟩
end Go.Proofs.Ytfaaikblkakiaaa
