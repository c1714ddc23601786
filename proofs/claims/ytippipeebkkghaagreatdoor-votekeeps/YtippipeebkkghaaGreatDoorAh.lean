/- Bytes of one's own that are written over; a sector's numbers: putNumber, numberOf, blank, flag, seal. -/
import Derived.Test.YtippipeebkkghaaGreatDoorFs
import Derived.Test.YtippipeebkkghaaGreatDoorAc
import Derived.Lib.Bytes
namespace Go.Proofs.YtippipeebkkghaaGreatDoor
set_option linter.unusedVariables false
set_option linter.unusedSimpArgs false
open Go.RowKit Go.Deep

/-- the part from o on replaced -/
def spl (xs : List Nat) (o : Nat) (ys : List Nat) : List Nat := xs.take o ++ ys ++ xs.drop (o + ys.length)
theorem spl_len {xs : List Nat} {o : Nat} {ys : List Nat} (h : o + ys.length ≤ xs.length) : (spl xs o ys).length = xs.length := by
  unfold spl
  rw [List.length_append, List.length_append, List.length_take, List.length_drop]
  omega
theorem spl_nil (xs : List Nat) (o : Nat) : spl xs o [] = xs := by
  unfold spl
  rw [List.append_nil, List.length_nil, Nat.add_zero, List.take_append_drop]
theorem spl_byte {xs ys : List Nat} {o : Nat} (h1 : ∀ x ∈ xs, x < 256) (h2 : ∀ y ∈ ys, y < 256) : ∀ x ∈ spl xs o ys, x < 256 := fun x hx => by
  unfold spl at hx
  rcases List.mem_append.1 hx with hx | hx
  · rcases List.mem_append.1 hx with hx | hx
    · exact h1 x (List.mem_of_mem_take hx)
    · exact h2 x hx
  · exact h1 x (List.mem_of_mem_drop hx)
theorem spl_get {xs ys : List Nat} {o : Nat} (h : o + ys.length ≤ xs.length) (j : Nat) : (spl xs o ys).getD j 0 = if o ≤ j ∧ j < o + ys.length then ys.getD (j - o) 0 else xs.getD j 0 := by
  unfold spl
  rw [List.getD_eq_getElem?_getD, List.append_assoc]
  by_cases h1 : j < o
  · rw [List.getElem?_append_left (by rw [List.length_take]; omega), List.getElem?_take_of_lt h1, if_neg (by omega), List.getD_eq_getElem?_getD]
  · rw [List.getElem?_append_right (by rw [List.length_take]; omega), List.length_take, Nat.min_eq_left (by omega)]
    by_cases h2 : j < o + ys.length
    · rw [List.getElem?_append_left (by omega), if_pos ⟨by omega, h2⟩, List.getD_eq_getElem?_getD]
    · rw [List.getElem?_append_right (by omega), List.getElem?_drop, if_neg (by omega), List.getD_eq_getElem?_getD, show o + ys.length + (j - o - ys.length) = j by omega]
theorem list_ext0 {xs ys : List Nat} (hl : xs.length = ys.length) (h : ∀ j, j < xs.length → xs.getD j 0 = ys.getD j 0) : xs = ys := by
  apply List.ext_getElem hl
  intro i h1 h2
  have := h i h1
  rw [List.getD_eq_getElem?_getD, List.getD_eq_getElem?_getD, List.getElem?_eq_getElem h1, List.getElem?_eq_getElem h2] at this
  exact this
theorem getD_set0 (l : List Nat) (i j x : Nat) (h : i < l.length) : (l.set i x).getD j 0 = if j = i then x else l.getD j 0 := by
  rw [List.getD_eq_getElem?_getD, List.getD_eq_getElem?_getD]
  by_cases e : j = i
  · subst e; rw [List.getElem?_set_self h, if_pos rfl]; rfl
  · rw [List.getElem?_set_ne (fun e2 => e e2.symm), if_neg e]
theorem getD_take0 (l : List Nat) (i j : Nat) (h : j < i) : (l.take i).getD j 0 = l.getD j 0 := by
  rw [List.getD_eq_getElem?_getD, List.getD_eq_getElem?_getD, List.getElem?_take_of_lt h]
theorem spl_step {xs ys : List Nat} {o i : Nat} (h : o + ys.length ≤ xs.length) (hi : i < ys.length) : (spl xs o (ys.take i)).set (o + i) (ys.getD i 0) = spl xs o (ys.take (i + 1)) := by
  have l1 : (ys.take i).length = i := by rw [List.length_take]; omega
  have l2 : (ys.take (i + 1)).length = i + 1 := by rw [List.length_take]; omega
  have n1 : (spl xs o (ys.take i)).length = xs.length := spl_len (by omega)
  have n2 : (spl xs o (ys.take (i + 1))).length = xs.length := spl_len (by omega)
  refine list_ext0 (by rw [List.length_set]; omega) (fun j hj => ?_)
  rw [getD_set0 _ _ _ _ (by omega), spl_get (by omega), spl_get (by omega), l1, l2]
  by_cases e : j = o + i
  · subst e
    rw [if_pos rfl, if_pos (by omega), getD_take0 _ _ _ (by omega), show o + i - o = i by omega]
  · rw [if_neg e]
    by_cases e2 : o ≤ j ∧ j < o + i
    · rw [if_pos e2, if_pos (by omega), getD_take0 _ _ _ (by omega), getD_take0 _ _ _ (by omega)]
    · rw [if_neg e2, if_neg (by omega)]

/-- a row of N bytes of one's own at block g -/
structure Bk (w : World) (base g cap N : Nat) (xs : List Nat) : Prop where
  len : xs.length = N
  byte : ∀ x ∈ xs, x < 256
  ow : w.ownsRow base 5 1 (.slice (some ⟨g, 0, none⟩) N cap) N (vl xs)
section
variable {w : World} {base g cap N : Nat} {xs : List Nat}
theorem Bk.gb (x : Bk w base g cap N xs) : base ≤ g ∧ g < w.heap.size := ownBlock_lt x.ow (g := g) rfl
theorem Bk.keep {S : Nat → Prop} {w' : World} (x : Bk w base g cap N xs) (k : Kp S w w') (hg : ¬ S g) : Bk w' base g cap N xs :=
  ⟨x.len, x.byte, ownsRow_keep x.ow k (fun g' e => by have e' : some g = some g' := e; injection e' with e'; subst e'; exact hg)⟩
theorem Bk.keep0 {w' : World} (x : Bk w base g cap N xs) (k : Kp (fun _ => False) w w') : Bk w' base g cap N xs := x.keep k id
theorem Bk.fz (x : Bk w base g cap N xs) (j : Nat) : w.frozen? ⟨g, j, none⟩ = false := own_frzI x.ow j
theorem Bk.cell (x : Bk w base g cap N xs) {j : Nat} (hj : j < N) : w.cell? ⟨g, j, none⟩ = some (.int .u8 ((xs.getD j 0 : Nat) : Int)) := by
  have h1 := x.ow.cells (g := g) rfl j _ (vl_get (by rw [x.len]; exact hj))
  rw [Addr.add_mid, Nat.zero_add] at h1
  exact h1
theorem Bk.set (x : Bk w base g cap N xs) {j y : Nat} (hj : j < N) (hy : y < 256) : Bk (w.setCell ⟨g, j, none⟩ (.int .u8 (y : Int))) base g cap N (xs.set j y) := by
  refine ⟨by rw [List.length_set]; exact x.len, fun z hz => ?_, ?_⟩
  · rcases List.mem_or_eq_of_mem_set hz with h | h
    · exact x.byte z h
    · omega
  · have h1 := own_setI x.ow j (.int .u8 (y : Int)) (by rw [vl_length, x.len]; exact hj)
    have h2 : vl (xs.set j y) = (vl xs).set j (.int .u8 (y : Int)) := by unfold vl; rw [List.map_set]
    rw [h2]
    exact h1
theorem Bk.rb (x : Bk w base g cap N xs) : Rb w (some ⟨g, 0, none⟩) N xs := ⟨x.len, x.byte, fun j hj => ⟨g, 0, rfl, by rw [Nat.zero_add]; exact x.cell hj⟩⟩
theorem Bk.capLe (x : Bk w base g cap N xs) : N ≤ cap := by
  obtain ⟨_, h2⟩ := x.ow
  rcases h2 with ⟨h0, _⟩ | ⟨g', cap', cur, hv, hg, hh, hnn, hcap, hsz, htake⟩
  · cases h0
  · cases hv; omega
end
theorem kp_set {w : World} {g j : Nat} {v : Value} : Kp (fun b => b = g) w (w.setCell ⟨g, j, none⟩ v) := (Kp.refl (fun b => b = g) w).setCell (fun _ => rfl) _

theorem pow_8 (k : Nat) : 2 ^ (8 * k) = 256 ^ k := by rw [Nat.pow_mul]
set_option maxRecDepth 100000 in
set_option maxHeartbeats 800000 in
theorem putNumber_ok {w : World} {base g cap N : Nat} {xs : List Nat} (x : Bk w base g cap N xs) (o L c u : Nat) (ho : o + L ≤ N) (hL : (L : Int) ≤ 8) (hN : (N : Int) ≤ 1000) (hu : u < 18446744073709551616) :
    Calls Tryz.prog 207 #[.slice (some ⟨g, o, none⟩) L c, .int .u64 (u : Int)] w fun e w' => e = .returned (.tuple #[]) ∧ Kp (fun b => b = g) w w' ∧ Bk w' base g cap N (spl xs o (big u L)) := by
  have HX : Hid (Bk w base g cap N xs) := x
  have HN : Hid (o + L ≤ N ∧ N ≤ 1000 ∧ L ≤ 8 ∧ u < 18446744073709551616) := ⟨ho, by omega, by omega, hu⟩
  have hwl : wrap64 ((L : Int) - 1) = ((L : Int) - 1) := by unfold wrap64; omega
  clear x ho hN hu
  go_enter Tryz.func207, Tryz.ntmps207
  go_wp2
  go_loopg [7] L (fun gk iv wr => ∃ i : Nat, i ≤ L ∧ gk = L - i ∧ iv = .int .i64 i ∧ Hid (Kp (fun b => b = g) w wr) ∧ Hid (Bk wr base g cap N (spl xs o ((big u L).take i))))
  case atStart => exact ⟨0, Nat.zero_le _, rfl, rfl, Kp.refl _ _, by show Bk _ _ _ _ _ _; rw [List.take_zero, spl_nil]; exact HX.out⟩
  case round =>
    obtain ⟨i, hi, rfl, rfl, HK, HB⟩ := hrel
    by_cases hlt : i < L
    · have hlt2 : (i : Int) < (L : Int) := by omega
      have hfz := HB.out.fz (o + i)
      have hcl := HB.out.cell (j := o + i) (by have := HN.out; omega)
      have HV : Hid ((u : Int) / 2 ^ (8 * (L - 1 - i)) % 256 = (((big u L).getD i 0 : Nat) : Int)) := by
        show _ = _
        rw [big_at u L i hlt, ← pow_8]
        norm_cast
      have HS : Hid (Bk (wr.setCell ⟨g, o + i, none⟩ (.int .u8 ((u : Int) / 2 ^ (8 * (L - 1 - i)) % 256))) base g cap N (spl xs o ((big u L).take (i + 1)))) := by
        show Bk _ _ _ _ _ _
        have hb : (big u L).getD i 0 < 256 := by rw [big_at u L i hlt]; omega
        rw [HV.out, ← spl_step (xs := xs) (ys := big u L) (by rw [big_length, HX.out.len]; exact HN.out.1) (by rw [big_length]; exact hlt)]
        exact HB.out.set (by have := HN.out; omega) hb
      clear HV
      go_wp2
      go_roundg (L - (i + 1))
      case rel => exact ⟨i + 1, by omega, rfl, by simp, HK.out.trans kp_set (fun _ _ e => e), HS.out⟩
      case measure => omega
    · have hlt2 : ¬ ((i : Int) < (L : Int)) := by omega
      have HF : Hid (Bk wr base g cap N (spl xs o (big u L))) := by
        have h1 := HB.out
        rw [List.take_of_length_le (by rw [big_length]; omega)] at h1
        exact h1
      go_wp2
      go_end0
      exact ⟨rfl, HK.out, HF.out⟩

/-- the number of bytes, the highest first -/
def hfW (xs : List Nat) : Nat := xs.foldl (fun n x => n * 256 + x) 0
theorem hfW_snoc (xs : List Nat) (x : Nat) : hfW (xs ++ [x]) = hfW xs * 256 + x := by simp [hfW]
theorem hfW_lt : ∀ (n : Nat) (xs : List Nat), xs.length = n → (∀ x ∈ xs, x < 256) → hfW xs < 256 ^ n
  | 0, xs, h, _ => by rw [List.eq_nil_of_length_eq_zero h]; decide
  | n + 1, xs, h, hb => by
    obtain ⟨ys, y, rfl⟩ : ∃ ys y, xs = ys ++ [y] := ⟨xs.dropLast, xs.getLast (by intro e; subst e; simp at h), (List.dropLast_concat_getLast _).symm⟩
    have := hfW_lt n ys (by simpa using h) (fun x hx => hb x (by simp [hx]))
    have hy := hb y (by simp)
    rw [hfW_snoc, Nat.pow_succ]
    omega
theorem big_succW (n w : Nat) : big n (w + 1) = big (n / 256) w ++ [n % 256] := by
  unfold big
  rw [List.range_succ, List.map_append]
  congr 1
  · refine List.map_congr_left (fun j hj => ?_)
    have hj' := List.mem_range.1 hj
    rw [Nat.div_div_eq_div_mul, ← Nat.pow_succ', show w + 1 - 1 - j = w - 1 - j + 1 from by omega]
  · simp
theorem hfW_big : ∀ (w n : Nat), n < 256 ^ w → hfW (big n w) = n
  | 0, n, h => by have : n = 0 := by simpa using h
                  subst this; rfl
  | w + 1, n, h => by
    rw [big_succW, hfW_snoc, hfW_big w (n / 256) (by rw [Nat.pow_succ] at h; omega)]; omega
theorem big_hfW : ∀ (w : Nat) (xs : List Nat), xs.length = w → (∀ x ∈ xs, x < 256) → big (hfW xs) w = xs
  | 0, xs, h, _ => by rw [List.eq_nil_of_length_eq_zero h]; rfl
  | w + 1, xs, h, hb => by
    obtain ⟨ys, y, rfl⟩ : ∃ ys y, xs = ys ++ [y] := ⟨xs.dropLast, xs.getLast (by intro e; subst e; simp at h), (List.dropLast_concat_getLast _).symm⟩
    have hy := hb y (by simp)
    rw [hfW_snoc, big_succW, show (hfW ys * 256 + y) / 256 = hfW ys from by omega, show (hfW ys * 256 + y) % 256 = y from by omega, big_hfW w ys (by simpa using h) (fun x hx => hb x (by simp [hx]))]

/-- a number of 64 bits as an int -/
def i64Of (n : Nat) : Int := if n < 9223372036854775808 then (n : Int) else (n : Int) - 18446744073709551616
theorem i64Of_wrap (n : Nat) (h : n < 18446744073709551616) : wrap64 (n : Int) = i64Of n := by
  unfold i64Of wrap64
  by_cases e : n < 9223372036854775808
  · rw [if_pos e]; omega
  · rw [if_neg e]; omega

theorem u64_or_shiftW (n x : Nat) (hn : n < 256 ^ 7) (hx : x < 256) : bits .or .u64 (IntKind.u64.wrap ((n : Int) * 256)) ((x : Nat) : Int) = ((n * 256 + x : Nat) : Int) := by
  have e : IntKind.u64.wrap ((n : Int) * 256) = ((n * 256 : Nat) : Int) := by
    have : IntKind.u64.wrap ((n : Int) * 256) = ((n : Int) * 256) % 18446744073709551616 := by simp [IntKind.wrap, IntKind.bits, IntKind.signed]
    rw [this]; omega
  rw [e, u64_or_nat _ _ (by omega) (by omega)]
  congr 1
  have := Nat.two_pow_add_eq_or_of_lt (i := 8) (b := x) (by omega) n
  rw [Nat.mul_comm n 256, show (256 : Nat) = 2 ^ 8 from rfl, ← this]

set_option maxRecDepth 100000 in
set_option maxHeartbeats 800000 in
theorem numberOf_ok {w : World} {p : Option Addr} {n : Nat} {xs : List Nat} (h : Rb w p n xs) (c : Nat) (hn : (n : Int) ≤ 8) :
    Calls Tryz.prog 179 #[.slice p n c] w fun e w' => e = .returned (.int .i64 (i64Of (hfW xs))) ∧ w' = w := by
  have HR : Hid (Rb w p n xs) := h
  have HN : Hid (n ≤ 8 ∧ xs.length = n) := ⟨by omega, h.len⟩
  clear h hn
  go_enter Tryz.func179, Tryz.ntmps179
  go_wp2
  go_loopg [3, 8] n (fun gk nv iv wr => ∃ i : Nat, i ≤ n ∧ gk = n - i ∧ iv = .int .i64 i ∧ nv = .int .u64 ((hfW (xs.take i) : Nat) : Int) ∧ wr = w)
  case atStart => exact ⟨0, Nat.zero_le _, rfl, rfl, rfl, rfl⟩
  case round =>
    obtain ⟨i, hi, rfl, rfl, rfl, hwr⟩ := hrel
    subst hwr
    by_cases hlt : i < n
    · have hlt2 : (i : Int) < (n : Int) := by omega
      obtain ⟨b, o, rfl, hc⟩ := HR.out.pt (by omega)
      have hcl := hc i hlt
      obtain ⟨y, hy⟩ : ∃ y, y = xs.getD i 0 := ⟨_, rfl⟩
      have hyb : y < 256 := by rw [hy]; exact HR.out.byteAt i
      rw [← hy] at hcl
      obtain ⟨m, hm⟩ : ∃ m, m = hfW (xs.take i) := ⟨_, rfl⟩
      have hml : m < 256 ^ 7 := by
        rw [hm]
        exact Nat.lt_of_lt_of_le (hfW_lt i _ (by rw [List.length_take]; have := HN.out; omega) (fun x hx => HR.out.byte x (List.mem_of_mem_take hx))) (Nat.pow_le_pow_right (by decide) (by have := HN.out; omega))
      have HNx : Hid (hfW (xs.take (i + 1)) = m * 256 + y) := by
        show _ = _
        have e : xs.take (i + 1) = xs.take i ++ [y] := by
          have hil : i < xs.length := by have := HN.out; omega
          rw [List.take_succ_eq_append_getElem hil, hy, List.getD_eq_getElem?_getD, List.getElem?_eq_getElem hil]; rfl
        rw [e, hfW_snoc, hm]
      rw [← hm]
      have hor := u64_or_shiftW m y hml hyb
      have hwy : IntKind.u64.wrap (y : Int) = (y : Int) := by simp [IntKind.wrap, IntKind.bits, IntKind.signed]; omega
      have hwi : wrap64 ((i : Int) + 1) = ((i + 1 : Nat) : Int) := by have := HN.out; unfold wrap64; omega
      clear hc hy hm hml hyb
      go_wp2
      go_roundg (n - (i + 1))
      case rel => exact ⟨i + 1, by omega, rfl, by rw [hwi], by rw [HNx.out]; simp, rfl⟩
      case measure => omega
    · have hlt2 : ¬ ((i : Int) < (n : Int)) := by omega
      have he : hfW (xs.take i) = hfW xs := by rw [List.take_of_length_le (by have := HN.out; omega)]
      rw [he]
      clear he
      have hw := i64Of_wrap (hfW xs) (Nat.lt_of_lt_of_le (hfW_lt n xs HN.out.2 HR.out.byte) (Nat.le_trans (Nat.pow_le_pow_right (by decide) HN.out.1) (by decide)))
      go_wp2
      go_ret
      exact ⟨rfl, rfl⟩

theorem numberOf_kp {w : World} {p : Option Addr} {n : Nat} {xs : List Nat} (h : Rb w p n xs) (c : Nat) (hn : (n : Int) ≤ 8) :
    Calls Tryz.prog 179 #[.slice p n c] w fun e w' => e = .returned (.int .i64 (i64Of (hfW xs))) ∧ Kp (fun _ => False) w w' :=
  (numberOf_ok h c hn).mono fun e w' ⟨he, hw⟩ => ⟨he, by rw [hw]; exact Kp.refl _ _⟩

/-- so many noughts -/
abbrev nouW (n : Nat) : List Nat := List.replicate n 0
set_option maxRecDepth 100000 in
set_option maxHeartbeats 800000 in
theorem blankS_ok (w : World) : Calls Tryz.prog 182 #[] w fun e w' => ∃ g, w.heap.size ≤ g ∧ e = .returned (.slice (some ⟨g, 0, none⟩) 64 64) ∧ Kp (fun _ => False) w w' ∧ Bk w' w.heap.size g 64 64 (nouW 64) := by
  have hmk : ∀ w : World, (Instr.makeSlice 75 (.int .i64 64) (.int .i64 64)).run Tryz.prog w = .ok (.slice (some ⟨w.heap.size, 0, none⟩) 64 64) (w.alloc (.cells (madeCells #[.int .u8 0] 64) 5)) := run_make_row' (P := Tryz.prog) 75 5 (.int .u8 0) 1 Tryz.underlying75 info5 rfl .i64 .i64 64 (by omega) (by omega)
  have HF : Hid (Kp (fun _ => False) w (w.alloc (.cells (madeCells #[.int .u8 0] 64) 5)) ∧ Bk (w.alloc (.cells (madeCells #[.int .u8 0] 64) 5)) w.heap.size w.heap.size 64 64 (nouW 64)) := by
    refine ⟨(Kp.refl _ _).alloc _, ⟨List.length_replicate, fun x hx => by have := List.eq_of_mem_replicate hx; omega, ?_⟩⟩
    have h1 := ow_of_row (xs := nouW 64) (World.rowIs_made w _ 64 5) (Nat.le_refl _) List.length_replicate (by unfold maxLen; omega) (fun j hj => by
      rw [List.getD_eq_getElem?_getD, List.getElem?_replicate, if_pos hj])
    exact h1
  go_enter Tryz.func182, Tryz.ntmps182
  go_wp2
  go_ret
  exact ⟨_, Nat.le_refl _, rfl, HF.out⟩

set_option maxRecDepth 100000 in
theorem flag_ok (b : Bool) (w : World) : Calls Tryz.prog 208 #[.bool b] w fun e w' => e = .returned (.int .u8 ((b.toNat : Nat) : Int)) ∧ w' = w := by
  cases b <;> (go_enter Tryz.func208, Tryz.ntmps208; go_wp2; go_ret; exact ⟨rfl, rfl⟩)

/-- a sector of parts: the sum of the first 59 bytes, the last byte -/
def sealB (xs : List Nat) : List Nat := xs.take 59 ++ big (Crc.sum (xs.take 59)) 4 ++ [167]
theorem sealB_eq {xs : List Nat} (h : xs.length = 64) : (spl xs 59 (big (Crc.sum (xs.take 59)) 4)).set 63 167 = sealB xs := by
  have l1 : (big (Crc.sum (xs.take 59)) 4).length = 4 := big_length _ _
  unfold spl sealB
  rw [l1, List.append_assoc, List.append_assoc, List.set_append_right _ _ (by rw [List.length_take]; omega), List.length_take, h]
  congr 1
  rw [List.set_append_right _ _ (by rw [l1]; omega), l1]
  congr 1
  have hd : (xs.drop (59 + 4)).length = 1 := by rw [List.length_drop]; omega
  obtain ⟨y, hy⟩ := List.length_eq_one_iff.1 hd
  rw [hy]
  rfl

theorem sliceLH (g o n c l r : Nat) (hl : l ≤ r) (hr : r ≤ c) (hlc : l < c) (w : World) :
    (Instr.slice 75 (.slice (some ⟨g, o, none⟩) n c) (some (.int .i64 (l : Int))) (some (.int .i64 (r : Int))) none).run Tryz.prog w = .ok (.slice (some ⟨g, o + l, none⟩) (r - l) (c - l)) w := by
  obtain ⟨i, hi, hz⟩ := Option.map_eq_some_iff.1 info5
  simp only [Prod.mk.injEq] at hz
  obtain ⟨hz, hs, hb⟩ := hz
  have h1 : (0 : Int) ≤ l ∧ (l : Int) ≤ (r : Int) := by omega
  have h2 : (0 : Int) ≤ r ∧ (r : Int) ≤ (c : Int) := by omega
  have h3 : ¬ c = l := by omega
  simp [Instr.slice, Instr.sliceBounds, Instr.sliceBound, asIntOf, run_underlying Tryz.underlying75, sizeOf, typeInfo, hi, hs, hl, hr, h3, Addr.add]
theorem sliceH (g o n c r : Nat) (hr : r ≤ c) (hc : 0 < c) (w : World) :
    (Instr.slice 75 (.slice (some ⟨g, o, none⟩) n c) none (some (.int .i64 (r : Int))) none).run Tryz.prog w = .ok (.slice (some ⟨g, o, none⟩) r c) w := by
  obtain ⟨i, hi, hz⟩ := Option.map_eq_some_iff.1 info5
  simp only [Prod.mk.injEq] at hz
  obtain ⟨hz, hs, hb⟩ := hz
  have h2 : (0 : Int) ≤ r ∧ (r : Int) ≤ (c : Int) := by omega
  have h3 : ¬ c = 0 := by omega
  simp [Instr.slice, Instr.sliceBounds, Instr.sliceBound, asIntOf, run_underlying Tryz.underlying75, sizeOf, typeInfo, hi, hr, h3, Addr.add]
theorem sliceL (g o n c l : Nat) (hl : l ≤ n) (hlc : l < c) (w : World) :
    (Instr.slice 75 (.slice (some ⟨g, o, none⟩) n c) (some (.int .i64 (l : Int))) none none).run Tryz.prog w = .ok (.slice (some ⟨g, o + l, none⟩) (n - l) (c - l)) w := by
  obtain ⟨i, hi, hz⟩ := Option.map_eq_some_iff.1 info5
  simp only [Prod.mk.injEq] at hz
  obtain ⟨hz, hs, hb⟩ := hz
  have h3 : ¬ c = l := by omega
  simp [Instr.slice, Instr.sliceBounds, Instr.sliceBound, asIntOf, run_underlying Tryz.underlying75, sizeOf, typeInfo, hi, hs, hl, h3, Addr.add]
/-- a part of bytes that lie from o on -/
theorem Rb.mid {w : World} {g o n : Nat} {xs : List Nat} (h : Rb w (some ⟨g, o, none⟩) n xs) {l m : Nat} (hl : l + m ≤ n) : Rb w (some ⟨g, o + l, none⟩) m ((xs.drop l).take m) := by
  refine ⟨by rw [List.length_take, List.length_drop, h.len]; omega, fun x hx => h.byte x (List.mem_of_mem_drop (List.mem_of_mem_take hx)), fun j hj => ?_⟩
  obtain ⟨b, o', e, hb⟩ := h.pt (by omega)
  simp only [Option.some.injEq, Addr.mk.injEq, and_true] at e
  obtain ⟨rfl, rfl⟩ := e
  refine ⟨g, o + l, rfl, ?_⟩
  rw [Nat.add_assoc, hb (l + j) (by omega), List.getD_eq_getElem?_getD, List.getD_eq_getElem?_getD, List.getElem?_take_of_lt hj, List.getElem?_drop]

set_option maxRecDepth 100000 in
set_option maxHeartbeats 1600000 in
theorem seal_ok {w : World} {base g cap : Nat} {xs : List Nat} (x : Bk w base g cap 64 xs) (ht : Turns w) (c : Nat) (hc : 64 ≤ c) :
    Calls Tryz.prog 209 #[.slice (some ⟨g, 0, none⟩) 64 c] w fun e w' => e = .returned (.slice (some ⟨g, 0, none⟩) 64 c) ∧ Kp (fun b => b = g) w w' ∧ Bk w' base g cap 64 (sealB xs) := by
  have HX : Hid (Bk w base g cap 64 xs) := x
  obtain ⟨S, hS⟩ : ∃ S, S = Crc.sum (xs.take 59) := ⟨_, rfl⟩
  have HS9 : Hid (S < 18446744073709551616) := by show _ < _; rw [hS]; exact Nat.lt_trans (Crc.sum_lt (fun y hy => x.byte y (List.mem_of_mem_take hy))) (by decide)
  have hwS : IntKind.u64.wrap (S : Int) = (S : Int) := by
    have : S < 4294967296 := by rw [hS]; exact Crc.sum_lt (fun y hy => x.byte y (List.mem_of_mem_take hy))
    simp [IntKind.wrap, IntKind.bits, IntKind.signed]
    omega
  have s1 : ∀ w, (Instr.slice 75 (.slice (some ⟨g, 0, none⟩) 64 c) (some (.int .i64 59)) (some (.int .i64 63)) none).run Tryz.prog w = .ok (.slice (some ⟨g, 59, none⟩) 4 (c - 59)) w := fun w => by
    have := sliceLH g 0 64 c 59 63 (by omega) (by omega) (by omega) w
    rw [Nat.zero_add] at this
    exact this
  have s2 : ∀ w, (Instr.slice 75 (.slice (some ⟨g, 0, none⟩) 64 c) none (some (.int .i64 59)) none).run Tryz.prog w = .ok (.slice (some ⟨g, 0, none⟩) 59 c) w := fun w => sliceH g 0 64 c 59 (by omega) (by omega) w
  have HR : Hid (Rb w (some ⟨g, 0, none⟩) 59 (xs.take 59)) := by
    have := x.rb.mid (l := 0) (m := 59) (by omega)
    rw [List.drop_zero, Nat.add_zero] at this
    exact this
  have HC1 : Hid (∀ u, Kp (fun _ => False) w u → Calls Tryz.prog 223 #[.slice (some ⟨g, 0, none⟩) 59 c] u fun e w' => e = .returned (.int .u32 (S : Int)) ∧ w' = u) := fun u k => by
    rw [hS]
    exact sum_any _ 59 c _ u (HR.out.keep0 k) (by omega) (fun j hj => k.cellv (ht j hj) id)
  have HC2 : Hid (∀ u, Kp (fun _ => False) w u → Calls Tryz.prog 207 #[.slice (some ⟨g, 59, none⟩) 4 (c - 59), .int .u64 (S : Int)] u fun e w' => e = .returned (.tuple #[]) ∧ Kp (fun b => b = g) u w' ∧ Bk w' base g cap 64 (spl xs 59 (big S 4))) := fun u k => putNumber_ok (HX.out.keep0 k) 59 4 (c - 59) S (by omega) (by omega) (by omega) HS9.out
  have hE : (spl xs 59 (big S 4)).set 63 167 = sealB xs := by rw [hS]; exact sealB_eq x.len
  have HE : Hid ((spl xs 59 (big S 4)).set 63 167 = sealB xs) := hE
  have k0 : Kp (fun _ => False) w w := Kp.refl _ _
  clear x ht hS hE
  go_enter Tryz.func209, Tryz.ntmps209
  go_wp2
  go_region_with (first
    | (go_at_call 223; refine (HC1.out _ k0.drew).mono ?_; rintro e9 wa ⟨rfl, rfl⟩)
    | (go_at_call 207; refine (HC2.out _ k0.drew).mono ?_; rintro e9 wb ⟨rfl, kb, bb⟩))
  have kk : Kp (fun b => b = g) w wb := (k0.drew.mono (fun _ _ e => e.elim)).trans kb (fun _ _ e => e)
  have f3 := bb.fz 63
  have c3 := bb.cell (j := 63) (by omega)
  have HF : Hid (Kp (fun b => b = g) w (wb.setCell ⟨g, 63, none⟩ (.int .u8 167)) ∧ Bk (wb.setCell ⟨g, 63, none⟩ (.int .u8 167)) base g cap 64 (sealB xs)) := ⟨kk.trans kp_set (fun _ _ e => e), by
    have := bb.set (j := 63) (y := 167) (by omega) (by omega)
    rw [HE.out] at this
    exact this⟩
  clear kk bb kb k0
  go_wp2
  go_ret
  exact ⟨rfl, HF.out⟩

/-- bytes.Equal of whatever -/
theorem str_injW {xs ys : List Nat} (hx : ∀ x ∈ xs, x < 256) (hy : ∀ y ∈ ys, y < 256) (h : str xs = str ys) : xs = ys := by
  have e : (str xs).data.toList = (str ys).data.toList := by rw [h]
  simp only [str, strOfNums_data, List.map_map] at e
  have back : ∀ {l : List Nat}, (∀ x ∈ l, x < 256) → (l.map ((fun n : Int => UInt8.ofNat n.toNat) ∘ fun x : Nat => (x : Int))).map (fun u => u.toNat) = l := by
    intro l hl
    rw [List.map_map]
    conv => rhs; rw [← List.map_id l]
    refine List.map_congr_left (fun x hx => ?_)
    have := hl x hx
    simp [UInt8.toNat_ofNat', Nat.mod_eq_of_lt this]
  rw [← back hx, ← back hy, e]
theorem str_neW {xs ys : List Nat} (hx : ∀ x ∈ xs, x < 256) (hy : ∀ y ∈ ys, y < 256) (h : xs ≠ ys) : ((str xs).toList == (str ys).toList) = false := by
  rw [beq_eq_false_iff_ne]
  intro e
  refine h (str_injW hx hy ?_)
  have e2 : (str xs).data.toList = (str ys).data.toList := by
    unfold str at e ⊢
    rw [Go.Lib.strOfNums_toList, Go.Lib.strOfNums_toList] at e
    exact e
  have e3 : (str xs).data = (str ys).data := Array.ext' e2
  exact ByteArray.ext e3
set_option maxRecDepth 100000 in
set_option maxHeartbeats 800000 in
theorem bytesEqW (v1 v2 : Value) (b1 b2 : ByteArray) (w : World) (h1 : (convert 75 9 v1).run Tryz.prog w = .ok (.string b1) w) (h2 : (convert 75 9 v2).run Tryz.prog w = .ok (.string b2) w) :
    Calls Tryz.prog 49 #[v1, v2] w fun e w' => e = .returned (.bool (b1.toList == b2.toList)) ∧ w' = w := by
  go_enter Tryz.func49, Tryz.ntmps49
  go_wp2
  go_ret
  exact ⟨rfl, rfl⟩
theorem equal_any {p q : Option Addr} {n m : Nat} {xs ys : List Nat} (c d : Nat) (w : World) (h1 : Rb w p n xs) (h2 : Rb w q m ys) :
    Calls Tryz.prog 49 #[.slice p n c, .slice q m d] w fun e w' => e = .returned (.bool (decide (xs = ys))) ∧ w' = w := by
  refine (bytesEqW _ _ _ _ w (convert_bytes p n c _ w h1) (convert_bytes q m d _ w h2)).mono fun e w' ⟨he, hw⟩ => ⟨?_, hw⟩
  rw [he]
  congr 2
  by_cases h : xs = ys
  · rw [h]; simp
  · rw [str_neW h1.byte h2.byte h]; simp [h]
end Go.Proofs.YtippipeebkkghaaGreatDoor
